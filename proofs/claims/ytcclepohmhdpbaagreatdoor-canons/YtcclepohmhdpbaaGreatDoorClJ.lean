import Derived.Test.YtcclepohmhdpbaaGreatDoorRfB
import Derived.Test.YtcclepohmhdpbaaGreatDoorVsA
/- THE WALKS: package plane: nextCut. -/
namespace Go.Proofs.YtcclepohmhdpbaaGreatDoor
set_option linter.all false
open Go.RowKit Go.Deep

theorem before_true {p q : Pnt} (h : Vd.bef p q) (w : World) : Calls Tryz.prog 236 #[ptV p, ptV q] w fun e w' => e = .returned (.bool true) ∧ Up w w' := by
  have := before_any p q w; rwa [decide_eq_true h] at this
theorem before_false {p q : Pnt} (h : ¬ Vd.bef p q) (w : World) : Calls Tryz.prog 236 #[ptV p, ptV q] w fun e w' => e = .returned (.bool false) ∧ Up w w' := by
  have := before_any p q w; rwa [decide_eq_false h] at this
theorem has_is {s : Vd.Seg} {p : Vd.Spot} {b : Bool} (h : Vd.hasB s p = b) (hs : Vd.CdS s) (hp : Vd.Sp p) (w : World) : Calls Tryz.prog 209 #[segV s, spotV p] w fun e w' => e = .returned (.bool b) ∧ Up w w' := by
  have := has_any s p hs hp w; rwa [h] at this

/-- what nextCut holds. -/
structure NC (w wr : World) (s : Vd.Seg) (f tu : Pnt) : Prop where
  up : Up w wr
  s0 : VRow wr w.heap.size 191 [.int .i64 s.1.1, .int .i64 s.1.2, .int .i64 s.2.1, .int .i64 s.2.2]
  f0 : VRow wr (w.heap.size + 1) 32 [.int .i64 f.1, .int .i64 f.2]
  r0 : VRow wr (w.heap.size + 2) 32 [.int .i64 0, .int .i64 0]
  t0 : VRow wr (w.heap.size + 3) 32 [.int .i64 tu.1, .int .i64 tu.2]
theorem NC.keep {w wr w2 : World} {s : Vd.Seg} {f tu : Pnt} (h : NC w wr s f tu) (k : Up wr w2) : NC w w2 s f tu :=
  ⟨h.up.trans k, h.s0.up k, h.f0.up k, h.r0.up k, h.t0.up k⟩
theorem NC.set {w wr : World} {s : Vd.Seg} {f tu : Pnt} (h : NC w wr s f tu) (p : Pnt) : NC w ((wr.setCell ⟨w.heap.size + 3, 0, none⟩ (.int .i64 p.1)).setCell ⟨w.heap.size + 3, 1, none⟩ (.int .i64 p.2)) s f p :=
  ⟨(h.up.setCell (by show w.heap.size ≤ w.heap.size + 3; omega) _).setCell (by show w.heap.size ≤ w.heap.size + 3; omega) _, (h.s0.setOther (by show w.heap.size ≠ w.heap.size + 3; omega) _).setOther (by show w.heap.size ≠ w.heap.size + 3; omega) _,
    (h.f0.setOther (by show w.heap.size + 1 ≠ w.heap.size + 3; omega) _).setOther (by show w.heap.size + 1 ≠ w.heap.size + 3; omega) _, (h.r0.setOther (by show w.heap.size + 2 ≠ w.heap.size + 3; omega) _).setOther (by show w.heap.size + 2 ≠ w.heap.size + 3; omega) _, row_set2 h.t0 _ _⟩
theorem NC.start (w : World) (ax ay bx bY fx fy : Int) : NC w ((((w.alloc (.cells #[.int .i64 ax, .int .i64 ay, .int .i64 bx, .int .i64 bY] 191)).alloc (.cells #[.int .i64 fx, .int .i64 fy] 32)).alloc (.cells #[.int .i64 0, .int .i64 0] 32)).alloc (.cells #[.int .i64 bx, .int .i64 bY] 32)) ((ax, ay), (bx, bY)) (fx, fy) (bx, bY) := by
  refine ⟨((((Up.refl _).alloc _).alloc _).alloc _).alloc _, ?_, ?_, ?_, ?_⟩
  · exact (((new_row (vs := [_, _, _, _]) rfl).alloc _).alloc _).alloc _
  · have := ((new_row (w := w.alloc (.cells #[.int .i64 ax, .int .i64 ay, .int .i64 bx, .int .i64 bY] 191)) (o := .cells #[.int .i64 fx, .int .i64 fy] 32) (vs := [_, _]) rfl).alloc (.cells #[.int .i64 0, .int .i64 0] 32)).alloc (.cells #[.int .i64 bx, .int .i64 bY] 32)
    simpa using this
  · have := (new_row (w := (w.alloc (.cells #[.int .i64 ax, .int .i64 ay, .int .i64 bx, .int .i64 bY] 191)).alloc (.cells #[.int .i64 fx, .int .i64 fy] 32)) (o := .cells #[.int .i64 0, .int .i64 0] 32) (vs := [_, _]) rfl).alloc (.cells #[.int .i64 bx, .int .i64 bY] 32)
    simpa using this
  · have := (new_row (w := ((w.alloc (.cells #[.int .i64 ax, .int .i64 ay, .int .i64 bx, .int .i64 bY] 191)).alloc (.cells #[.int .i64 fx, .int .i64 fy] 32)).alloc (.cells #[.int .i64 0, .int .i64 0] 32)) (o := .cells #[.int .i64 bx, .int .i64 bY] 32) (vs := [_, _]) rfl)
    simpa using this
theorem cutF_pos {s : Vd.Seg} {f tu p : Pnt} (h1 : Vd.bef f p) (h2 : Vd.bef p tu) (h3 : Vd.hasB s (Vd.at1 p) = true) : Vd.cutF s f tu p = p := if_pos ⟨h1, h2, of_decide_eq_true h3⟩
theorem cutF_neg {s : Vd.Seg} {f tu p : Pnt} (h : ¬ (Vd.bef f p ∧ Vd.bef p tu ∧ Vd.hasB s (Vd.at1 p) = true)) : Vd.cutF s f tu p = tu := if_neg fun k => h ⟨k.1, k.2.1, decide_eq_true k.2.2⟩
theorem fold_snoc {s : Vd.Seg} {f t0 : Pnt} {l : List Pnt} {p : Pnt} : (l ++ [p]).foldl (Vd.cutF s f) t0 = Vd.cutF s f (l.foldl (Vd.cutF s f) t0) p := by rw [List.foldl_append]; rfl
theorem flat_take {rings : Poly} {k : Nat} {r : Ring} (h : rings[k]? = some r) : (rings.take (k + 1)).flatten = (rings.take k).flatten ++ r := by rw [Pl.take_one h, List.flatten_append]; simp

set_option maxHeartbeats 8000000 in
theorem nextCut_any (s : Vd.Seg) (f : Pnt) (v : Value) (rings : Poly) (w : World) (hs : Vd.CdS s) (hv : Rd2 w v rings) (hl : rings.length ≤ 1048576) (hl2 : ∀ r ∈ rings, r.length ≤ 1048576) (hc : Vd.CdL rings) :
    Calls Tryz.prog 201 #[segV s, ptV f, v] w fun e w' => e = .returned (ptV (Vd.nextCut s f rings)) ∧ Up w w' := by
  obtain ⟨⟨ax, ay⟩, ⟨bx, bY⟩⟩ := s
  obtain ⟨fx, fy⟩ := f
  have HS := hide hs
  have HC := hide hc
  have HL := hide hl2
  obtain ⟨ao, cap, rfl, hm⟩ := hv
  have HM := hide hm
  have HN := hide (NC.start w ax ay bx bY fx fy)
  clear hs hc hl2 hm
  simp only [segV, ptV]
  go_enter Tryz.func201, Tryz.ntmps201
  go_wp2_with fail
  go_loopw [16] (fun i wr => ∃ (k : Nat) (tu : Pnt), i = .int .i64 k ∧ k ≤ rings.length ∧ Hid (NC w wr ((ax, ay), (bx, bY)) (fx, fy) tu) ∧ Hid (tu = (rings.take k).flatten.foldl (Vd.cutF ((ax, ay), (bx, bY)) (fx, fy)) (bx, bY))) (fun i _ => rings.length - (intOf i).toNat)
  case atStart => exact ⟨0, (bx, bY), rfl, Nat.zero_le _, HN, rfl⟩
  case round =>
    obtain ⟨k, tu, rfl, hk, HK, HT⟩ := hrel
    by_cases hlt : k < rings.length
    · obtain ⟨r, hr⟩ := Pl.some_of_lt hlt
      obtain ⟨b, u, rfl, cu, hu⟩ := HM.out k r hr
      obtain ⟨ao2, cap2, rfl, hp⟩ := hu
      have HP := hide hp
      have cu2 := HK.out.up.cell cu
      have hrl := HL.out r (Pl.mem_of_some hr)
      have HCR := hide (HC.out r (Pl.mem_of_some hr))
      have HF := hide (flat_take hr)
      clear hr cu hp
      go_wp2_with fail
      go_loopw [22] (fun i wr => ∃ (q : Nat) (tu : Pnt), i = .int .i64 q ∧ q ≤ r.length ∧ Hid (NC w wr ((ax, ay), (bx, bY)) (fx, fy) tu) ∧ Hid (tu = ((rings.take k).flatten ++ r.take q).foldl (Vd.cutF ((ax, ay), (bx, bY)) (fx, fy)) (bx, bY))) (fun i _ => r.length - (intOf i).toNat)
      case atStart => exact ⟨0, tu, rfl, Nat.zero_le _, HK, by rw [List.take_zero, List.append_nil]; exact HT⟩
      case round =>
        clear HK HT cu2
        obtain ⟨q, ⟨tx, ty⟩, rfl, hq, HK, HT⟩ := hrel
        by_cases hlq : q < r.length
        · obtain ⟨⟨px, py⟩, hxy⟩ := Pl.some_of_lt hlq
          obtain ⟨b2, rfl, cx, cy⟩ := HP.out q (px, py) hxy
          have cx' := HK.out.up.cell cx
          have cy' := HK.out.up.cell cy
          dsimp only at cx' cy'
          have HCP := hide (HCR.out _ (Pl.mem_of_some hxy))
          have HX : Hid ((((rings.take k).flatten ++ r.take (q + 1)).foldl (Vd.cutF ((ax, ay), (bx, bY)) (fx, fy)) (bx, bY)) = Vd.cutF ((ax, ay), (bx, bY)) (fx, fy) (tx, ty) (px, py)) := by
            rw [Pl.take_one hxy, ← List.append_assoc, fold_snoc, ← HT.out]; exact rfl
          clear hxy cx cy HT
          go_upto_region 8 with fail
          have HW := hide (HK.out.keep ((Up.refl wr).alloc (.cells #[.int .i64 px, .int .i64 py] 32)))
          have RP := hide (new_row (w := wr) (o := .cells #[.int .i64 px, .int .i64 py] 32) (vs := [.int .i64 px, .int .i64 py]) rfl)
          generalize wr.alloc (.cells #[.int .i64 px, .int .i64 py] 32) = W at *
          have s0 := HW.out.s0.gr (i := 0) rfl
          have s1 := HW.out.s0.gr (i := 1) rfl
          have s2 := HW.out.s0.gr (i := 2) rfl
          have s3 := HW.out.s0.gr (i := 3) rfl
          have f0 := HW.out.f0.gr (i := 0) rfl
          have f1 := HW.out.f0.gr (i := 1) rfl
          have t0 := HW.out.t0.gr (i := 0) rfl
          have t1 := HW.out.t0.gr (i := 1) rfl
          have p0 := RP.out.gr (i := 0) rfl
          have p1 := RP.out.gr (i := 1) rfl
          clear cx' cy'
          by_cases h1 : Vd.bef (fx, fy) (px, py)
          · by_cases h2 : Vd.bef (px, py) (tx, ty)
            · cases h3 : Vd.hasB ((ax, ay), (bx, bY)) (Vd.at1 (px, py))
              · skip
                have D1 := hide h1
                have D2 := hide h2
                have D3 := hide h3
                have HY := hide (HX.out.trans (cutF_neg (fun x => by rw [h3] at x; exact absurd x.2.2 (by simp))))
                clear h1 h2 h3
                refine wp_region_up (by kernel_rfl) (by kernel_rfl) ?_
                repeat (first | go_big_quiet_step ((first | (go_at_call_of 236 (Value.agg #[.int .i64 fx, .int .i64 fy]); exact Calls.up_of (before_true D1.out _)) | (go_at_call 236; exact Calls.up_of (before_true D2.out _)) | (go_at_call 199; exact Calls.up_of (at_any (px, py) _)) | (go_at_call 209; exact Calls.up_of (has_is D3.out HS.out (Vd.at1_sp HCP.out) _)))))
                refine wpQuiet_nil ?_
                rintro _ ⟨⟨w2, u2⟩, rfl⟩
                have HK2 := hide (HW.out.keep u2)
                clear u2 s0 s1 s2 s3 f0 f1 t0 t1 p0 p1
                go_wp2
                go_roundw
                case rel => exact ⟨q + 1, (tx, ty), by go_num, by omega, HK2, HY.out.symm⟩
                case measure => simp [intOf]; omega
              · skip
                have D1 := hide h1
                have D2 := hide h2
                have D3 := hide h3
                have HY := hide (HX.out.trans (cutF_pos h1 h2 h3))
                clear h1 h2 h3
                refine wp_region_up (by kernel_rfl) (by kernel_rfl) ?_
                repeat (first | go_big_quiet_step ((first | (go_at_call_of 236 (Value.agg #[.int .i64 fx, .int .i64 fy]); exact Calls.up_of (before_true D1.out _)) | (go_at_call 236; exact Calls.up_of (before_true D2.out _)) | (go_at_call 199; exact Calls.up_of (at_any (px, py) _)) | (go_at_call 209; exact Calls.up_of (has_is D3.out HS.out (Vd.at1_sp HCP.out) _)))))
                refine wpQuiet_nil ?_
                rintro _ ⟨⟨w2, u2⟩, rfl⟩
                have HK2 := hide (HW.out.keep u2)
                have RP2 := RP.out.up u2
                have q0 := RP2.cell (i := 0) rfl
                have q1 := RP2.cell (i := 1) rfl
                have r0 := HK2.out.t0.cell (i := 0) rfl
                have r1 := HK2.out.t0.cell (i := 1) rfl
                have rf := fun i => HK2.out.t0.frozen i
                clear RP2
                clear u2 s0 s1 s2 s3 f0 f1 t0 t1 p0 p1
                go_wp2
                go_roundw
                case rel => exact ⟨q + 1, (px, py), by go_num, by omega, HK2.out.set (px, py), HY.out.symm⟩
                case measure => simp [intOf]; omega
            · skip
              have D1 := hide h1
              have D2 := hide h2
              have HY := hide (HX.out.trans (cutF_neg (fun x => h2 x.2.1)))
              clear h1 h2
              refine wp_region_up (by kernel_rfl) (by kernel_rfl) ?_
              repeat (first | go_big_quiet_step ((first | (go_at_call_of 236 (Value.agg #[.int .i64 fx, .int .i64 fy]); exact Calls.up_of (before_true D1.out _)) | (go_at_call 236; exact Calls.up_of (before_false D2.out _)))))
              refine wpQuiet_nil ?_
              rintro _ ⟨⟨w2, u2⟩, rfl⟩
              have HK2 := hide (HW.out.keep u2)
              clear u2 s0 s1 s2 s3 f0 f1 t0 t1 p0 p1
              go_wp2
              go_roundw
              case rel => exact ⟨q + 1, (tx, ty), by go_num, by omega, HK2, HY.out.symm⟩
              case measure => simp [intOf]; omega
          · skip
            have D1 := hide h1
            have HY := hide (HX.out.trans (cutF_neg (fun x => h1 x.1)))
            clear h1
            refine wp_region_up (by kernel_rfl) (by kernel_rfl) ?_
            repeat (first | go_big_quiet_step ((first | (go_at_call_of 236 (Value.agg #[.int .i64 fx, .int .i64 fy]); exact Calls.up_of (before_false D1.out _)))))
            refine wpQuiet_nil ?_
            rintro _ ⟨⟨w2, u2⟩, rfl⟩
            have HK2 := hide (HW.out.keep u2)
            clear u2 s0 s1 s2 s3 f0 f1 t0 t1 p0 p1
            go_wp2
            go_roundw
            case rel => exact ⟨q + 1, (tx, ty), by go_num, by omega, HK2, HY.out.symm⟩
            case measure => simp [intOf]; omega
        · have hq2 : q = r.length := by omega
          subst hq2
          rw [List.take_length] at HT
          go_wp2
          go_roundw
          case rel => exact ⟨k + 1, (tx, ty), by go_num, by omega, HK, by rw [HF.out]; exact HT⟩
          case measure => simp [intOf]; omega
    · have hk2 : k = rings.length := by omega
      subst hk2
      rw [List.take_length] at HT
      obtain ⟨tx, ty⟩ := tu
      have r0 := HK.out.t0.cell (i := 0) rfl
      have r1 := HK.out.t0.cell (i := 1) rfl
      have q0 := HK.out.r0.cell (i := 0) rfl
      have q1 := HK.out.r0.cell (i := 1) rfl
      have qf := fun i => HK.out.r0.frozen i
      go_wp2
      refine ret_cell Tryz.results201 rfl rfl (load_pnt (row_set2 HK.out.r0 _ _)) ⟨?_, (HK.out.up.setCell (by show w.heap.size ≤ w.heap.size + 2; omega) _).setCell (by show w.heap.size ≤ w.heap.size + 2; omega) _⟩
      show Ending.returned (ptV (tx, ty)) = _
      rw [HT.out]
      rfl
end Go.Proofs.YtcclepohmhdpbaaGreatDoor

/- THE WALKS: package plane: Middles. -/
namespace Go.Proofs.YtcclepohmhdpbaaGreatDoor
set_option linter.all false
open Go.RowKit Go.Deep

theorem und_spots : Tryz.prog.underlying 192 = some (.slice 127) := by kernel_rfl
theorem info_spot : (Tryz.prog.info? 127).map (fun i => (i.zero, i.size, i.bytes)) = some (some (.agg #[.int .i64 0, .int .i64 0, .int .i64 0]), 3, 24) := by kernel_rfl
theorem el_spots : Elem Tryz.prog 192 127 (.agg #[.int .i64 0, .int .i64 0, .int .i64 0]) 3 24 := ⟨und_spots, info_spot, rfl, by omega, by omega⟩

/-- what Middles holds: the way, and whence. -/
structure MD (w wr : World) (A : Nat) (s : Vd.Seg) (f : Pnt) : Prop where
  up : Up w wr
  a : w.heap.size ≤ A
  s0 : VRow wr A 191 [.int .i64 s.1.1, .int .i64 s.1.2, .int .i64 s.2.1, .int .i64 s.2.2]
  f0 : VRow wr (A + 1) 32 [.int .i64 f.1, .int .i64 f.2]
theorem MD.keep {w wr w2 : World} {A : Nat} {s : Vd.Seg} {f : Pnt} (h : MD w wr A s f) (k : Up wr w2) : MD w w2 A s f :=
  ⟨h.up.trans k, h.a, h.s0.up k, h.f0.up k⟩
theorem MD.set {w wr : World} {A : Nat} {s : Vd.Seg} {f : Pnt} (h : MD w wr A s f) (x y : Int) : MD w ((wr.setCell ⟨A + 1, 0, none⟩ (.int .i64 x)).setCell ⟨A + 1, 1, none⟩ (.int .i64 y)) A s (x, y) :=
  ⟨(h.up.setCell (by have := h.a; show w.heap.size ≤ A + 1; omega) _).setCell (by have := h.a; show w.heap.size ≤ A + 1; omega) _, h.a, (h.s0.setOther (by show A ≠ A + 1; omega) _).setOther (by show A ≠ A + 1; omega) _, row_set2 h.f0 _ _⟩
theorem MD.grown {w wr w2 : World} {A : Nat} {s : Vd.Seg} {f : Pnt} (h : MD w wr A s f) {v : Value} {n : Nat} {xs : List Value} (ho : wr.ownsRow w.heap.size 127 3 v n xs) (hg : wr.grownBy w2 v.ownBlock) : MD w w2 A s f :=
  ⟨Fr.up (S := fun _ => False) ((Fr.of_up h.up).grown hg fun x hx => .inr (own_lt ho hx).1) (fun _ _ h => h), h.a, h.s0.grown hg (own_row_ne ho h.s0 (by decide)), h.f0.grown hg (own_row_ne ho h.f0 (by decide))⟩

theorem midsF_step1 {s : Vd.Seg} {f : Pnt} {rings : Poly} (h : f ≠ s.2) {n : Nat} (hn : Vd.ahead s f rings ≤ n) :
    ∃ n', n = n' + 1 ∧ Vd.midsF n s f rings = Vd.midOf f (Vd.nextCut s f rings) :: Vd.midsF n' s (Vd.nextCut s f rings) rings ∧ Vd.ahead s (Vd.nextCut s f rings) rings ≤ n' := by
  have := Vd.ahead_step (rings := rings) h
  cases n with
  | zero => omega
  | succ n => exact ⟨n, rfl, by rw [Vd.midsF, if_neg h], by omega⟩
set_option maxHeartbeats 8000000 in
theorem middles_any (s : Vd.Seg) (v : Value) (rings : Poly) (w : World) (hs : Vd.CdS s) (hv : Rd2 w v rings) (hl : rings.length ≤ 1048576) (hl2 : ∀ r ∈ rings, r.length ≤ 1048576) (hf : rings.flatten.length ≤ 1048576) (hc : Vd.CdL rings) :
    Calls Tryz.prog 162 #[segV s, v] w fun e w' => ∃ u, e = .returned u ∧ Up w w' ∧ w'.ownsRow w.heap.size 127 3 u (Vd.mids s rings).length (flatG spotC (Vd.mids s rings)) := by
  have HS := hide hs
  have HC := hide hc
  have HL := hide hl2
  have HV := hide hv
  have HM : Hid (Vd.mids s rings = Vd.midsF (rings.flatten.length + 1) (Vd.fwd s.1 s.2) (Vd.fwd s.1 s.2).1 rings) := rfl
  have HW := hide (Vd.fwd_cd hs)
  have HA := hide (Vd.ahead_le (Vd.fwd s.1 s.2) (Vd.fwd s.1 s.2).1 rings)
  have HLen := hide (Vd.mids_len s rings)
  generalize hMs : Vd.mids s rings = Ms at *
  have HMs := hide hMs
  obtain ⟨⟨ax, ay⟩, ⟨bx, bY⟩⟩ := s
  clear hs hc hl2 hv hMs
  obtain ⟨ao, cap, rfl, -⟩ := HV.out
  simp only [segV]
  go_enter Tryz.func162, Tryz.ntmps162
  go_wp2_with fail
  refine (forward_any ((ax, ay), (bx, bY)) _).mono ?_
  rintro e w1 ⟨rfl, u1⟩
  generalize hfw : Vd.fwd ((ax, ay), bx, bY).1 ((ax, ay), bx, bY).2 = fw at *
  clear hfw
  obtain ⟨⟨cx, cy⟩, ⟨dx, dy⟩⟩ := fw
  have HU1 : Hid (Up w w1) := ((Up.refl _).alloc _).trans u1
  clear u1
  simp only [segV]
  have HD : Hid (MD w ((w1.alloc (.cells #[.int .i64 cx, .int .i64 cy, .int .i64 dx, .int .i64 dy] 191)).alloc (.cells #[.int .i64 cx, .int .i64 cy] 32)) w1.heap.size ((cx, cy), (dx, dy)) (cx, cy)) := by
    refine ⟨(HU1.out.alloc _).alloc _, HU1.out.size, ?_, ?_⟩
    · exact (new_row (vs := [_, _, _, _]) rfl).alloc _
    · have := (new_row (w := w1.alloc (.cells #[.int .i64 cx, .int .i64 cy, .int .i64 dx, .int .i64 dy] 191)) (o := .cells #[.int .i64 cx, .int .i64 cy] 32) (vs := [_, _]) rfl)
      simpa using this
  go_wp2_with fail
  go_loopg [5] (rings.flatten.length + 1) (fun n mv wr => ∃ (f : Pnt) (u : Value) (ms : List Vd.Spot), u = mv ∧ Hid (MD w wr w1.heap.size ((cx, cy), (dx, dy)) f) ∧ Hid (wr.ownsRow w.heap.size 127 3 u ms.length (flatG spotC ms)) ∧ Hid (Ms = ms ++ Vd.midsF n ((cx, cy), (dx, dy)) f rings) ∧ Hid (Vd.ahead ((cx, cy), (dx, dy)) f rings ≤ n) ∧ Hid (Vd.Cd f) ∧ Hid (ms.length + n ≤ rings.flatten.length + 1))
  case atStart => exact ⟨(cx, cy), _, [], rfl, HD, World.ownsRow_nil _ _ _ _, HM.out, HA.out, HW.out.1, by simp [Hid]⟩
  case round =>
    obtain ⟨⟨fx, fy⟩, u, ms, rfl, HD2, HO, HE, HB, HF, HN⟩ := hrel
    clear HD
    have s0 := HD2.out.s0.cell (i := 0) rfl
    have s1 := HD2.out.s0.cell (i := 1) rfl
    have s2 := HD2.out.s0.cell (i := 2) rfl
    have s3 := HD2.out.s0.cell (i := 3) rfl
    have f0 := HD2.out.f0.cell (i := 0) rfl
    have f1 := HD2.out.f0.cell (i := 1) rfl
    simp only at s0 s1 s2 s3 f0 f1
    by_cases he : (fx, fy) = (dx, dy)
    · cases he
      have HZ := hide (Vd.midsF_end (s := ((cx, cy), (dx, dy))) (f := (dx, dy)) (rings := rings) rfl gk)
      go_wp2
      go_ret
      refine ⟨_, rfl, HD2.out.up, ?_⟩
      have := HE.out
      rw [HZ.out, List.append_nil] at this
      rw [this]; exact HO.out
    · have HX := hide (midsF_step1 (s := ((cx, cy), (dx, dy))) he HB.out)
      have HNC := hide (Vd.nextCut_cd (s := ((cx, cy), (dx, dy))) (f := (fx, fy)) (rings := rings) HW.out HC.out)
      rcases (show fx ≠ dx ∨ (fx = dx ∧ fy ≠ dy) from by by_cases c : fx = dx; exact .inr ⟨c, fun e => he (by rw [c, e])⟩; exact .inl c) with hd | ⟨rfl, hd⟩
      all_goals
        have hd' := beq_eq_false_iff_ne.2 hd
        clear he hd
        go_wp2_with fail
        refine (nextCut_any ((cx, cy), (_, dy)) (fx, fy) _ rings _ HW.out (HV.out.up HD2.out.up) hl HL.out HC.out).mono ?_
        rintro e w2 ⟨rfl, u2⟩
        generalize hT : Vd.nextCut ((cx, cy), (_, dy)) (fx, fy) rings = T at *
        clear hT
        obtain ⟨tx, ty⟩ := T
        simp only [ptV]
        have HD3 := hide ((HD2.out.keep u2).keep ((Up.refl w2).alloc (.cells #[.int .i64 tx, .int .i64 ty] 32)))
        have HO3 := hide (own_up HO.out (u2.alloc (.cells #[.int .i64 tx, .int .i64 ty] 32)))
        have RT := hide (new_row (w := w2) (o := .cells #[.int .i64 tx, .int .i64 ty] 32) (vs := [.int .i64 tx, .int .i64 ty]) rfl)
        have g0 := HD3.out.f0.cell (i := 0) rfl
        have g1 := HD3.out.f0.cell (i := 1) rfl
        simp only at g0 g1
        clear u2 s0 s1 s2 s3 f0 f1
        go_wp2_with fail
        refine (middle_any (fx, fy) (tx, ty) HF.out HNC.out _).mono ?_
        rintro e w3 ⟨rfl, u3⟩
        have HD4 := hide (HD3.out.keep u3)
        have HO4 := hide (own_up HO3.out u3)
        have RT4 := hide (RT.out.up u3)
        clear u3 g0 g1 HD3 HO3 RT
        obtain ⟨n', HX0, HX1, HX2⟩ := HX.out
        have HX0 := hide HX0
        have HX1 := hide HX1
        have HX2 := hide HX2
        have HOA := hide (HO4.out.alloc (.cells #[.int .i64 (fx + tx), .int .i64 (fy + ty), .int .i64 2] 127))
        have HDA := hide (HD4.out.keep ((Up.refl w3).alloc (.cells #[.int .i64 (fx + tx), .int .i64 (fy + ty), .int .i64 2] 127)))
        have RTA := hide (RT4.out.alloc (.cells #[.int .i64 (fx + tx), .int .i64 (fy + ty), .int .i64 2] 127))
        have hb : Hid (ms.length ≤ 1073741824) := by have := HN.out; show _ ≤ _; omega
        have hsz := hide HDA.out.up.size
        clear hd'
        simp only [spotV, Vd.midOf]
        go_wp2_with (at_builtin; refine wpList_app el_spots rfl (.tmp 21) (.tmp 25) rfl w.heap.size _ _ _ (by rfl) HOA.out w3.heap.size [.int .i64 (fx + tx), .int .i64 (fy + ty), .int .i64 2] (by rfl) rfl (heap_alloc_new w3 _) (by intro x hx; simp at hx; rcases hx with rfl | rfl | rfl <;> rfl) hb.out hsz.out ?_; intro g cap w5 hown5 hg5 hat5 hlt5; have HD5 := hide (HDA.out.grown HOA.out hg5); have HO5 := hide hown5; have RT5 := RTA.out.grown hg5 (own_row_ne HOA.out RTA.out (by decide)); have t0 := RT5.cell (i := 0) rfl; have t1 := RT5.cell (i := 1) rfl; have k0 := HD5.out.f0.cell (i := 0) rfl; have k1 := HD5.out.f0.cell (i := 1) rfl; have kf := fun i => HD5.out.f0.frozen i; clear hown5 hg5 hat5 hlt5 RT5)
        go_roundg n'
        case rel =>
          refine ⟨(tx, ty), _, ms ++ [((fx + tx, fy + ty), 2)], rfl, HD5.out.set tx ty, ?_, ?_, HX2.out, HNC.out, ?_⟩
          · rw [flatG_append, List.length_append]
            exact own_set (own_set HO5.out (own_row_ne HO5.out HD5.out.f0 (by decide)) _) (own_row_ne HO5.out HD5.out.f0 (by decide)) _
          · rw [HE.out, HX1.out, List.append_assoc]; exact rfl
          · have := HN.out; have := HX0.out; simp only [Hid, List.length_append, List.length_singleton]; omega
        case measure => have := HX0.out; omega
end Go.Proofs.YtcclepohmhdpbaaGreatDoor

/- THE WALKS: package clauses: Ring. -/
namespace Go.Proofs.YtcclepohmhdpbaaGreatDoor
set_option linter.all false
open Go.RowKit Go.Deep

theorem anyI_step {n : Nat} {f : Nat → Bool} (h : Vd.anyI n f = false) (hf : f n = false) : Vd.anyI (n + 1) f = false := by rw [Vd.anyI_succ, h, hf]; rfl
theorem anyI_none {n : Nat} {f : Nat → Bool} (h : ∀ i, i < n → f i = false) : Vd.anyI n f = false := by
  induction n with
  | zero => rfl
  | succ n ih => rw [Vd.anyI_succ, ih fun i hi => h i (by omega), h n (by omega)]; rfl
/-- the round of hasTwice. -/
def twG (r : Ring) (i j : Nat) : Bool := decide (i < j) && decide (r[i]? = r[j]?)
def twF (r : Ring) (i : Nat) : Bool := decide (1 ≤ i) && Vd.anyI r.length (twG r i)
theorem twice_F (r : Ring) : Vd.twice r = Vd.anyI r.length (twF r) := rfl
theorem twG_at {r : Ring} {i j : Nat} (h : i < j) {a b c d : Int} (hi : r[i]? = some (a, b)) (hj : r[j]? = some (c, d)) : twG r i j = (decide (a = c) && decide (b = d)) := by
  unfold twG
  rw [decide_eq_true h, hi, hj, Bool.true_and]
  by_cases h1 : a = c <;> by_cases h2 : b = d <;> simp [h1, h2]
theorem twG_le {r : Ring} {i j : Nat} (h : j ≤ i) : twG r i j = false := by unfold twG; rw [decide_eq_false (by omega)]; rfl

set_option maxHeartbeats 4000000 in
theorem hasTwice_any (v : Value) (r : Ring) (w : World) (hv : Rd1 w v r) (hr : r.length ≤ 1048576) :
    Calls Tryz.prog 154 #[v] w fun e w' => e = .returned (.bool (Vd.twice r)) ∧ Up w w' := by
  obtain ⟨ao, cap, rfl, hm⟩ := hv
  have HM := hide hm
  have HT := hide (twice_F r)
  clear hm
  go_enter Tryz.func154, Tryz.ntmps154
  go_wp2
  go_loopw [3] (fun i wr => ∃ k : Nat, i = .int .i64 (k + 1 : Nat) ∧ k ≤ r.length ∧ Hid (Up w wr) ∧ Hid (Vd.anyI (k + 1) (twF r) = false)) (fun i _ => r.length + 1 - (intOf i).toNat)
  case atStart => exact ⟨0, rfl, Nat.zero_le _, Up.refl _, rfl⟩
  case round =>
    obtain ⟨k, rfl, hk, HU, HA⟩ := hrel
    by_cases hlt : k + 1 < r.length
    · obtain ⟨⟨ax, ay⟩, hp⟩ := Pl.some_of_lt hlt
      obtain ⟨b, rfl, c0, c1⟩ := HM.out (k + 1) _ hp
      have HP := hide hp
      have C0 := hide c0
      have C1 := hide c1
      clear c0 c1 hp
      go_wp2
      go_loopw [4] (fun j wr => ∃ q : Nat, j = .int .i64 (k + 1 + 1 + q : Nat) ∧ Hid (Up w wr) ∧ Hid (Vd.anyI (k + 1 + 1 + q) (twG r (k + 1)) = false) ∧ k + 1 + 1 + q ≤ r.length) (fun j _ => r.length - (intOf j).toNat)
      case atStart => exact ⟨0, by go_num, HU, anyI_none fun i hi => twG_le (by omega), by omega⟩
      case round =>
        clear HU
        obtain ⟨q, rfl, HU, HB, hq⟩ := hrel
        by_cases hlq : k + 1 + 1 + q < r.length
        · obtain ⟨⟨bx, bY⟩, hp2⟩ := Pl.some_of_lt hlq
          obtain ⟨b', e', d0, d1⟩ := HM.out (k + 1 + 1 + q) _ hp2
          cases e'
          have f0 := HU.out.cell C0.out
          have f1 := HU.out.cell C1.out
          have g0 := HU.out.cell d0
          have g1 := HU.out.cell d1
          have HG := hide (twG_at (show k + 1 < k + 1 + 1 + q by omega) HP.out hp2)
          dsimp only at f0 f1 g0 g1
          have i1 : (0 : Int) ≤ (k : Int) + 1 := by omega
          have i2 : (k : Int) + 1 < (r.length : Int) := by omega
          have i3 : (0 : Int) ≤ (k : Int) + 1 + 1 + (q : Int) := by omega
          have i4 : (k : Int) + 1 + 1 + (q : Int) < (r.length : Int) := by omega
          clear d0 d1 hp2
          by_cases h1 : ax = bx
          · by_cases h2 : ay = bY
            · subst h1 h2
              have HGt : Hid (Vd.twice r = true) := by
                rw [HT.out]
                refine Vd.anyI_true (i := k + 1) hlt ?_
                unfold twF
                rw [decide_eq_true (by omega), Bool.true_and]
                exact Vd.anyI_true hlq (by rw [HG.out]; simp)
              go_wp2
              go_quiet (fail)
              go_wp2
              go_ret
              exact ⟨ret_b HGt.out.symm, HU.out.drewN _⟩
            · have HGf : Hid (twG r (k + 1) (k + 1 + 1 + q) = false) := by rw [HG.out]; simp [h2, Hid]
              subst h1
              have h2' := beq_eq_false_iff_ne.2 h2
              go_wp2
              go_quiet (fail)
              go_wp2
              go_roundw
              case rel => exact ⟨q + 1, by go_num, HU.out.drewN _, anyI_step HB.out HGf.out, by omega⟩
              case measure => simp [intOf]; omega
          · have HGf : Hid (twG r (k + 1) (k + 1 + 1 + q) = false) := by rw [HG.out]; simp [h1, Hid]
            have h1' := beq_eq_false_iff_ne.2 h1
            go_wp2
            go_quiet (fail)
            go_wp2
            go_roundw
            case rel => exact ⟨q + 1, by go_num, HU.out.drewN _, anyI_step HB.out HGf.out, by omega⟩
            case measure => simp [intOf]; omega
        · have hq2 : k + 1 + 1 + q = r.length := by omega
          have HFf : Hid (twF r (k + 1) = false) := by
            unfold twF
            have := HB.out
            rw [hq2] at this
            rw [this]; simp [Hid]
          go_wp2
          go_roundw
          case rel => exact ⟨k + 1, by go_num, by omega, HU, anyI_step HA.out HFf.out⟩
          case measure => simp [intOf]; omega
    · have HR : Hid (Vd.twice r = false) := by
        rw [HT.out]
        by_cases h0 : r.length = 0
        · rw [h0]; exact rfl
        · have := HA.out
          by_cases e : k + 1 = r.length
          · rw [← e]; exact this
          · have e2 : k = r.length := by omega
            subst e2
            rw [Vd.anyI_succ, Bool.or_eq_false_iff] at this
            exact this.1
      go_wp2
      go_ret
      exact ⟨ret_b HR.out.symm, HU.out⟩
end Go.Proofs.YtcclepohmhdpbaaGreatDoor

/- THE WALKS: package clauses: meetsItself, areSimple. -/
namespace Go.Proofs.YtcclepohmhdpbaaGreatDoor
set_option linter.all false
open Go.RowKit Go.Deep

/-- the rounds of meetsItself. -/
def slG (l : List Vd.Seg) (j i : Nat) : Bool := decide (Vd.meetS (Vd.sAt l i) (Vd.sAt l j) ≠ Vd.wantI l.length i j)
def slF (l : List Vd.Seg) (j : Nat) : Bool := Vd.anyI j (slG l j)
theorem self_F (r : Ring) : Vd.selfR r = Vd.anyI (Vd.segs r).length (slF (Vd.segs r)) := rfl
theorem sAt_some {l : List Vd.Seg} {i : Nat} {s : Vd.Seg} (h : l[i]? = some s) : Vd.sAt l i = s := by unfold Vd.sAt; rw [List.getD_eq_getElem?_getD, h]; rfl
theorem want_cases (n i j : Nat) : (i + 1 = j ∧ Vd.wantI n i j = 1) ∨ (i + 1 ≠ j ∧ i = 0 ∧ j + 1 = n ∧ Vd.wantI n i j = 1) ∨ (i + 1 ≠ j ∧ i = 0 ∧ j + 1 ≠ n ∧ Vd.wantI n i j = 0) ∨ (i + 1 ≠ j ∧ i ≠ 0 ∧ Vd.wantI n i j = 0) := by
  unfold Vd.wantI
  by_cases h1 : i + 1 = j
  · left; exact ⟨h1, if_pos (.inl h1)⟩
  · right
    by_cases h2 : i = 0
    · by_cases h3 : j + 1 = n
      · left; exact ⟨h1, h2, h3, if_pos (.inr ⟨h2, h3⟩)⟩
      · right; left; exact ⟨h1, h2, h3, if_neg (by omega)⟩
    · right; right; exact ⟨h1, h2, if_neg (by omega)⟩

set_option maxHeartbeats 8000000 in
theorem meetsItself_any (v : Value) (r : Ring) (w : World) (hv : Rd1 w v r) (hr : r.length ≤ 1048576) (hc : Vd.CdR r) :
    Calls Tryz.prog 155 #[v] w fun e w' => e = .returned (.bool (Vd.selfR r)) ∧ Up w w' := by
  have HV := hide hv
  have HC := hide hc
  have HT := hide (self_F r)
  have hsl : (Vd.segs r).length ≤ 1048576 := by rw [Vd.segs_len]; omega
  obtain ⟨ao, cap, rfl, -⟩ := HV.out
  clear hv hc
  go_enter Tryz.func155, Tryz.ntmps155
  go_wp2_with fail
  refine (segments_any _ r _ HV.out hr).mono ?_
  rintro e w1 ⟨sv, rfl, u1, ho⟩
  obtain ⟨sa, sc, es⟩ := own_len ho
  subst es
  have HR := hide (own_rdG (f := segC) (fun _ => rfl) ho)
  have HU1 := hide u1
  have HCS : Hid (∀ i s, (Vd.segs r)[i]? = some s → Vd.CdS s) := fun i s hs => Vd.segs_cd HC.out (Pl.mem_of_some hs)
  generalize Vd.segs r = L at *
  clear ho u1
  go_wp2_with fail
  go_loopw [12] (fun i wr => ∃ k : Nat, i = .int .i64 k ∧ k ≤ L.length ∧ Hid (Up w1 wr) ∧ Hid (Vd.anyI k (slF L) = false)) (fun i _ => L.length - (intOf i).toNat)
  case atStart => exact ⟨0, rfl, Nat.zero_le _, Up.refl _, rfl⟩
  case round =>
    obtain ⟨k, rfl, hk, HU, HA⟩ := hrel
    by_cases hlt : k < L.length
    · obtain ⟨⟨⟨ax, ay⟩, ⟨bx, bY⟩⟩, hs⟩ := Pl.some_of_lt hlt
      obtain ⟨g, cap', ev, c0, c1, c2, c3⟩ := (HR.out.up HU.out).seg hs
      cases ev
      have HCk := hide (HCS.out _ _ hs)
      have Hk := hide hs
      simp only at c0 c1 c2 c3
      clear hs
      go_wp2_with fail
      have RT := hide (new_row (w := wr) (o := .cells #[.int .i64 ax, .int .i64 ay, .int .i64 bx, .int .i64 bY] 191) (vs := [.int .i64 ax, .int .i64 ay, .int .i64 bx, .int .i64 bY]) rfl)
      have HUa : Hid (Up w1 (wr.alloc (.cells #[.int .i64 ax, .int .i64 ay, .int .i64 bx, .int .i64 bY] 191))) := HU.out.alloc _
      generalize hB : wr.heap.size = B at *
      clear hB c0 c1 c2 c3
      go_loopw [6] (fun i wq => ∃ q : Nat, i = .int .i64 q ∧ q ≤ k ∧ Hid (Up w1 wq) ∧ Hid (VRow wq B 191 [.int .i64 ax, .int .i64 ay, .int .i64 bx, .int .i64 bY]) ∧ Hid (Vd.anyI q (slG L k) = false)) (fun i _ => k - (intOf i).toNat)
      case atStart => exact ⟨0, rfl, Nat.zero_le _, HUa, RT, rfl⟩
      case round =>
        clear HUa RT
        obtain ⟨q, rfl, hq, HUq, RT, HB⟩ := hrel
        by_cases hlq : q < k
        · obtain ⟨⟨⟨cx, cy⟩, ⟨dx, dy⟩⟩, hs2⟩ := Pl.some_of_lt (show q < L.length by omega)
          obtain ⟨g', cap'', ev, c0, c1, c2, c3⟩ := (HR.out.up HUq.out).seg hs2
          cases ev
          have HCq := hide (HCS.out _ _ hs2)
          have HG : Hid (slG L k q = decide (Vd.meetS ((cx, cy), (dx, dy)) ((ax, ay), (bx, bY)) ≠ Vd.wantI L.length q k)) := by
            unfold slG; rw [sAt_some hs2, sAt_some Hk.out]; exact rfl
          simp only at c0 c1 c2 c3
          have s0 := cell_gr c0
          have s1 := cell_gr c1
          have s2 := cell_gr c2
          have s3 := cell_gr c3
          have t0 := RT.out.gr (i := 0) rfl
          have t1 := RT.out.gr (i := 1) rfl
          have t2 := RT.out.gr (i := 2) rfl
          have t3 := RT.out.gr (i := 3) rfl
          have i1 : (0 : Int) ≤ (q : Int) := by omega
          have i2 : (q : Int) < (L.length : Int) := by omega
          have wc := want_cases L.length q k
          clear hs2 c0 c1 c2 c3
          have fin : Hid (slG L k q = true → Vd.selfR r = true) := by
            intro h
            rw [HT.out]
            exact Vd.anyI_true hlt (Vd.anyI_true (f := slG L k) hlq h)
          rcases wc with ⟨h1, hw⟩ | ⟨h1, h2, h3, hw⟩ | ⟨h1, h2, h3, hw⟩ | ⟨h1, h2, hw⟩
          all_goals
            rw [hw] at HG
            clear hw
            first
            | (have j1 : ((q : Int) + 1 == (k : Int)) = true := beq_iff_eq.2 (by omega))
            | (have j1 : ((q : Int) + 1 == (k : Int)) = false := beq_eq_false_iff_ne.2 (by omega)
               first
               | (have j2 : ((q : Int) == 0) = false := beq_eq_false_iff_ne.2 (by omega))
               | (have j2 : ((q : Int) == 0) = true := beq_iff_eq.2 (by omega)
                  first
                  | (have j3 : ((k : Int) == (L.length : Int) - 1) = true := beq_iff_eq.2 (by omega))
                  | (have j3 : ((k : Int) == (L.length : Int) - 1) = false := beq_eq_false_iff_ne.2 (by omega))))
            try clear h3
            try clear h2
            try clear h1
            go_wp2_with fail
            refine wp_region_up (by kernel_rfl) (by kernel_rfl) ?_
            repeat (first | go_big_quiet_step ((go_at_call 196; exact Calls.up_of (meet_any ((cx, cy), (dx, dy)) ((ax, ay), (bx, bY)) HCq.out HCk.out _))))
            refine wpQuiet_nil ?_
            rintro _ ⟨⟨w3, u3⟩, rfl⟩
            have HU3 := hide (HUq.out.trans u3)
            have RT3 := hide (RT.out.up u3)
            clear u3 s0 s1 s2 s3 t0 t1 t2 t3
            generalize Vd.meetS ((cx, cy), dx, dy) ((ax, ay), bx, bY) = M at *
            first
            | (by_cases hM : M = 1
               · have HGf : Hid (slG L k q = false) := by rw [HG.out]; simp [hM, Hid]
                 subst hM
                 go_wp2
                 go_roundw
                 case rel => exact ⟨q + 1, by go_num, by omega, HU3, RT3, anyI_step HB.out HGf.out⟩
                 case measure => simp [intOf]; omega
               · have HGt := hide (fin.out (by rw [HG.out]; simpa using hM))
                 have hM' := beq_eq_false_iff_ne.2 hM
                 go_wp2
                 go_ret
                 exact ⟨ret_b HGt.out.symm, HU1.out.trans HU3.out⟩)
            | (by_cases hM : M = 0
               · have HGf : Hid (slG L k q = false) := by rw [HG.out]; simp [hM, Hid]
                 subst hM
                 go_wp2
                 go_roundw
                 case rel => exact ⟨q + 1, by go_num, by omega, HU3, RT3, anyI_step HB.out HGf.out⟩
                 case measure => simp [intOf]; omega
               · have HGt := hide (fin.out (by rw [HG.out]; simpa using hM))
                 have hM' := beq_eq_false_iff_ne.2 hM
                 go_wp2
                 go_ret
                 exact ⟨ret_b HGt.out.symm, HU1.out.trans HU3.out⟩)
        · have hq2 : q = k := by omega
          subst hq2
          go_wp2
          go_roundw
          case rel => exact ⟨q + 1, by go_num, by omega, HUq, anyI_step HA.out HB.out⟩
          case measure => simp [intOf]; omega
    · have hk2 : k = L.length := by omega
      subst hk2
      have HRf : Hid (Vd.selfR r = false) := by rw [HT.out]; exact HA.out
      go_wp2
      go_ret
      exact ⟨ret_b HRf.out.symm, HU1.out.trans HU.out⟩

set_option maxHeartbeats 4000000 in
theorem areSimple_any (v : Value) (l : Poly) (w : World) (hv : Rd2 w v l) (hl : l.length ≤ 1048576) (hl2 : ∀ r ∈ l, r.length ≤ 1048576) (hc : Vd.CdL l) :
    Calls Tryz.prog 121 #[v] w fun e w' => e = .returned (.bool (Vd.simple l)) ∧ Up w w' := by
  obtain ⟨ao, cap, rfl, hm⟩ := hv
  have HM := hide hm
  have HC := hide hc
  have HL := hide hl2
  have HS : Hid (Vd.simple l = !(l.any fun r => Vd.twice r || Vd.selfR r)) := rfl
  generalize hf : (fun r => Vd.twice r || Vd.selfR r) = f at *
  have HF : Hid (∀ r, f r = (Vd.twice r || Vd.selfR r)) := by subst hf; exact fun _ => rfl
  clear hm hc hl2 hf
  go_enter Tryz.func121, Tryz.ntmps121
  go_wp2
  go_loopw [7] (fun i wr => ∃ k : Nat, i = .int .i64 k ∧ k ≤ l.length ∧ Hid (Up w wr) ∧ Hid ((l.take k).any f = false)) (fun i _ => l.length - (intOf i).toNat)
  case atStart => exact ⟨0, rfl, Nat.zero_le _, Up.refl _, rfl⟩
  case round =>
    obtain ⟨k, rfl, hk, HU, HA⟩ := hrel
    by_cases hlt : k < l.length
    · obtain ⟨r, hr⟩ := Pl.some_of_lt hlt
      obtain ⟨b, u, rfl, cu, hu⟩ := HM.out k r hr
      have HUr := hide (hu.up HU.out)
      have cu2 := HU.out.cell cu
      have Hr := hide hr
      have HrL := hide (HL.out r (Pl.mem_of_some hr))
      have HrC := hide (HC.out r (Pl.mem_of_some hr))
      have HX := hide (Pl.any_take_succ f hr)
      clear hr cu hu
      cases ht : Vd.twice r
      · cases hs : Vd.selfR r
        · have HT := hide ht
          have HSf := hide hs
          have HFf : Hid (f r = false) := by rw [HF.out, ht, hs]; exact rfl
          clear ht hs
          go_wp2_with (first | (go_at_call 154; refine (hasTwice_any _ r _ HUr.out HrL.out).mono ?_; rintro e w2 ⟨rfl, u2⟩; rw [HT.out]; replace u2 := hide u2) | (go_at_call 155; refine (meetsItself_any _ r _ (HUr.out.up u2.out) HrL.out HrC.out).mono ?_; rintro e w3 ⟨rfl, u3⟩; rw [HSf.out]; replace u3 := hide u3))
          go_roundw
          case rel => exact ⟨k + 1, by go_num, by omega, (HU.out.trans u2.out).trans u3.out, by rw [HX.out, HA.out, HFf.out]; exact rfl⟩
          case measure => simp [intOf]; omega
        · have HT := hide ht
          have HSf := hide hs
          have HFt : Hid (Vd.simple l = false) := by rw [HS.out, Pl.any_true_of f Hr.out (by rw [HF.out, ht, hs]; rfl)]; exact rfl
          clear ht hs
          go_wp2_with (first | (go_at_call 154; refine (hasTwice_any _ r _ HUr.out HrL.out).mono ?_; rintro e w2 ⟨rfl, u2⟩; rw [HT.out]; replace u2 := hide u2) | (go_at_call 155; refine (meetsItself_any _ r _ (HUr.out.up u2.out) HrL.out HrC.out).mono ?_; rintro e w3 ⟨rfl, u3⟩; rw [HSf.out]; replace u3 := hide u3))
          go_ret
          exact ⟨ret_b HFt.out.symm, (HU.out.trans u2.out).trans u3.out⟩
      · have HT := hide ht
        have HFt : Hid (Vd.simple l = false) := by rw [HS.out, Pl.any_true_of f Hr.out (by rw [HF.out, ht]; rfl)]; exact rfl
        clear ht
        go_wp2_with (first | (go_at_call 154; refine (hasTwice_any _ r _ HUr.out HrL.out).mono ?_; rintro e w2 ⟨rfl, u2⟩; rw [HT.out]; replace u2 := hide u2))
        go_ret
        exact ⟨ret_b HFt.out.symm, HU.out.trans u2.out⟩
    · have hk2 : k = l.length := by omega
      subst hk2
      rw [List.take_length] at HA
      have HRt : Hid (Vd.simple l = true) := by rw [HS.out, HA.out]; exact rfl
      go_wp2
      go_ret
      exact ⟨ret_b HRt.out.symm, HU.out⟩
end Go.Proofs.YtcclepohmhdpbaaGreatDoor

/- THE WALKS: package clauses: Rings. -/
namespace Go.Proofs.YtcclepohmhdpbaaGreatDoor
set_option linter.all false
open Go.RowKit Go.Deep

theorem cross_two {s t : Vd.Seg} (h : Vd.meetS s t = 2) : Vd.crossS s t = true := by unfold Vd.crossS; rw [h]; rfl
theorem cross_three {s t : Vd.Seg} (h : Vd.meetS s t = 3) : Vd.crossS s t = true := by unfold Vd.crossS; rw [h]; rfl
theorem cross_no {s t : Vd.Seg} (h2 : Vd.meetS s t ≠ 2) (h3 : Vd.meetS s t ≠ 3) : Vd.crossS s t = false := by unfold Vd.crossS; simp [h2, h3]

set_option maxHeartbeats 8000000 in
theorem cross_any (v u : Value) (r o : Ring) (w : World) (hv : Rd1 w v r) (hu : Rd1 w u o) (hr : r.length ≤ 1048576) (hr2 : o.length ≤ 1048576) (hc : Vd.CdR r) (hc2 : Vd.CdR o) :
    Calls Tryz.prog 156 #[v, u] w fun e w' => e = .returned (.bool (Vd.cross r o)) ∧ Up w w' := by
  have HV := hide hv
  have HV2 := hide hu
  have HT : Hid (Vd.cross r o = (Vd.segs r).any fun s => (Vd.segs o).any fun t => Vd.crossS s t) := rfl
  have hsl : (Vd.segs r).length ≤ 1048576 := by rw [Vd.segs_len]; omega
  have hsl2 : (Vd.segs o).length ≤ 1048576 := by rw [Vd.segs_len]; omega
  have HC1 : Hid (∀ i s, (Vd.segs r)[i]? = some s → Vd.CdS s) := fun i s hs => Vd.segs_cd hc (Pl.mem_of_some hs)
  have HC2 : Hid (∀ i s, (Vd.segs o)[i]? = some s → Vd.CdS s) := fun i s hs => Vd.segs_cd hc2 (Pl.mem_of_some hs)
  obtain ⟨ao, cap, rfl, -⟩ := HV.out
  obtain ⟨ao2, cap2, rfl, -⟩ := HV2.out
  clear hv hu hc hc2
  go_enter Tryz.func156, Tryz.ntmps156
  go_wp2_with fail
  refine (segments_any _ o _ HV2.out hr2).mono ?_
  rintro e w1 ⟨sv, rfl, u1, ho⟩
  obtain ⟨sa, sc, es⟩ := own_len ho
  subst es
  have HR2 := hide (own_rdG (f := segC) (fun _ => rfl) ho)
  have HU1 := hide u1
  clear ho u1
  go_wp2_with fail
  refine (segments_any _ r _ (HV.out.up HU1.out) hr).mono ?_
  rintro e w2 ⟨sv, rfl, u2, ho⟩
  obtain ⟨sa2, sc2, es⟩ := own_len ho
  subst es
  have HR1 := hide (own_rdG (f := segC) (fun _ => rfl) ho)
  have HR2 := hide (HR2.out.up u2)
  have HU2 := hide (HU1.out.trans u2)
  generalize Vd.segs r = L at *
  generalize Vd.segs o = M at *
  generalize hf : (fun s => M.any fun t => Vd.crossS s t) = f at *
  have HF : Hid (∀ s, f s = M.any fun t => Vd.crossS s t) := by subst hf; exact fun _ => rfl
  clear ho u2 hf HU1
  go_wp2_with fail
  go_loopw [16] (fun i wr => ∃ k : Nat, i = .int .i64 k ∧ k ≤ L.length ∧ Hid (Up w2 wr) ∧ Hid ((L.take k).any f = false)) (fun i _ => L.length - (intOf i).toNat)
  case atStart => exact ⟨0, rfl, Nat.zero_le _, Up.refl _, rfl⟩
  case round =>
    obtain ⟨k, rfl, hk, HU, HA⟩ := hrel
    by_cases hlt : k < L.length
    · obtain ⟨⟨⟨ax, ay⟩, ⟨bx, bY⟩⟩, hs⟩ := Pl.some_of_lt hlt
      obtain ⟨g, cap', ev, c0, c1, c2, c3⟩ := (HR1.out.up HU.out).seg hs
      cases ev
      have HCk := hide (HC1.out _ _ hs)
      have Hk := hide hs
      have HX := hide (Pl.any_take_succ f hs)
      simp only at c0 c1 c2 c3
      clear hs
      go_wp2_with fail
      have RT := hide (new_row (w := wr) (o := .cells #[.int .i64 ax, .int .i64 ay, .int .i64 bx, .int .i64 bY] 191) (vs := [.int .i64 ax, .int .i64 ay, .int .i64 bx, .int .i64 bY]) rfl)
      have HUa : Hid (Up w2 (wr.alloc (.cells #[.int .i64 ax, .int .i64 ay, .int .i64 bx, .int .i64 bY] 191))) := HU.out.alloc _
      generalize hB : wr.heap.size = B at *
      clear hB c0 c1 c2 c3
      go_loopw [22] (fun i wq => ∃ q : Nat, i = .int .i64 q ∧ q ≤ M.length ∧ Hid (Up w2 wq) ∧ Hid (VRow wq B 191 [.int .i64 ax, .int .i64 ay, .int .i64 bx, .int .i64 bY]) ∧ Hid ((M.take q).any (fun t => Vd.crossS ((ax, ay), (bx, bY)) t) = false)) (fun i _ => M.length - (intOf i).toNat)
      case atStart => exact ⟨0, rfl, Nat.zero_le _, HUa, RT, rfl⟩
      case round =>
        clear HUa RT
        obtain ⟨q, rfl, hq, HUq, RT, HB⟩ := hrel
        by_cases hlq : q < M.length
        · obtain ⟨⟨⟨cx, cy⟩, ⟨dx, dy⟩⟩, hs2⟩ := Pl.some_of_lt hlq
          obtain ⟨g', cap'', ev, c0, c1, c2, c3⟩ := (HR2.out.up HUq.out).seg hs2
          cases ev
          have HCq := hide (HC2.out _ _ hs2)
          have HY := hide (Pl.any_take_succ (fun t => Vd.crossS ((ax, ay), (bx, bY)) t) hs2)
          simp only at c0 c1 c2 c3
          have t0 := fun o => (RT.out.alloc o).cell (i := 0) rfl
          have t1 := fun o => (RT.out.alloc o).cell (i := 1) rfl
          have t2 := fun o => (RT.out.alloc o).cell (i := 2) rfl
          have t3 := fun o => (RT.out.alloc o).cell (i := 3) rfl
          have fin : Hid (Vd.crossS ((ax, ay), (bx, bY)) ((cx, cy), (dx, dy)) = true → Vd.cross r o = true) := by
            intro h
            rw [HT.out]
            exact Pl.any_true_of f Hk.out (by rw [HF.out]; exact Pl.any_true_of _ hs2 h)
          clear hs2
          go_wp2_with fail
          refine (meet_any ((ax, ay), (bx, bY)) ((cx, cy), (dx, dy)) HCk.out HCq.out _).mono ?_
          rintro e w3 ⟨rfl, u3⟩
          have HU3 : Hid (Up w2 w3) := (HUq.out.alloc _).trans u3
          have RT3 := hide ((RT.out.alloc _).up u3)
          clear u3 c0 c1 c2 c3 t0 t1 t2 t3
          by_cases h2 : Vd.meetS ((ax, ay), (bx, bY)) ((cx, cy), (dx, dy)) = 2
          · have HGt := hide (fin.out (cross_two h2))
            rw [h2]
            go_wp2
            go_ret
            exact ⟨ret_b HGt.out.symm, HU2.out.trans HU3.out⟩
          · by_cases h3 : Vd.meetS ((ax, ay), (bx, bY)) ((cx, cy), (dx, dy)) = 3
            · have HGt := hide (fin.out (cross_three h3))
              rw [h3]
              go_wp2
              go_ret
              exact ⟨ret_b HGt.out.symm, HU2.out.trans HU3.out⟩
            · have HGf := hide (cross_no h2 h3)
              generalize Vd.meetS ((ax, ay), (bx, bY)) ((cx, cy), (dx, dy)) = Mt at *
              have h2' := beq_eq_false_iff_ne.2 h2
              have h3' := beq_eq_false_iff_ne.2 h3
              go_wp2
              go_roundw
              case rel => exact ⟨q + 1, by go_num, by omega, HU3, RT3, by rw [HY.out, HB.out, HGf.out]; exact rfl⟩
              case measure => simp [intOf]; omega
        · have hq2 : q = M.length := by omega
          subst hq2
          rw [List.take_length] at HB
          go_wp2
          go_roundw
          case rel => exact ⟨k + 1, by go_num, by omega, HUq, by rw [HX.out, HA.out, HF.out, HB.out]; exact rfl⟩
          case measure => simp [intOf]; omega
    · have hk2 : k = L.length := by omega
      subst hk2
      rw [List.take_length] at HA
      have HRf : Hid (Vd.cross r o = false) := by rw [HT.out]; exact HA.out
      go_wp2
      go_ret
      exact ⟨ret_b HRf.out.symm, HU2.out.trans HU.out⟩

/-- the rounds of touchAtMost. -/
def tcG (l : Poly) (j i : Nat) : Bool := Vd.cross (Vd.rAt l i) (Vd.rAt l j)
def tcF (l : Poly) (j : Nat) : Bool := Vd.anyI j (tcG l j)
theorem touch_F (l : Poly) : Vd.touch l = !(Vd.anyI l.length (tcF l)) := rfl
theorem rAt_some {l : Poly} {i : Nat} {r : Ring} (h : l[i]? = some r) : Vd.rAt l i = r := by unfold Vd.rAt; rw [List.getD_eq_getElem?_getD, h]; rfl
set_option maxHeartbeats 4000000 in
theorem touch_any (v : Value) (l : Poly) (w : World) (hv : Rd2 w v l) (hl : l.length ≤ 1048576) (hl2 : ∀ r ∈ l, r.length ≤ 1048576) (hc : Vd.CdL l) :
    Calls Tryz.prog 122 #[v] w fun e w' => e = .returned (.bool (Vd.touch l)) ∧ Up w w' := by
  obtain ⟨ao, cap, rfl, hm⟩ := hv
  have HM := hide hm
  have HC := hide hc
  have HL := hide hl2
  have HS := hide (touch_F l)
  clear hm hc hl2
  go_enter Tryz.func122, Tryz.ntmps122
  go_wp2
  go_loopw [8] (fun i wr => ∃ k : Nat, i = .int .i64 k ∧ k ≤ l.length ∧ Hid (Up w wr) ∧ Hid (Vd.anyI k (tcF l) = false)) (fun i _ => l.length - (intOf i).toNat)
  case atStart => exact ⟨0, rfl, Nat.zero_le _, Up.refl _, rfl⟩
  case round =>
    obtain ⟨k, rfl, hk, HU, HA⟩ := hrel
    by_cases hlt : k < l.length
    · obtain ⟨r, hr⟩ := Pl.some_of_lt hlt
      obtain ⟨b, u, rfl, cu, hu⟩ := HM.out k r hr
      obtain ⟨ao2, cap2, rfl, -⟩ := id hu
      have Hu := hide hu
      have cu2 := HU.out.cell cu
      have Hr := hide hr
      have HrL := hide (HL.out r (Pl.mem_of_some hr))
      have HrC := hide (HC.out r (Pl.mem_of_some hr))
      clear hr cu hu
      go_wp2
      clear cu2
      go_loopw [5] (fun i wr => ∃ q : Nat, i = .int .i64 q ∧ q ≤ k ∧ Hid (Up w wr) ∧ Hid (Vd.anyI q (tcG l k) = false)) (fun i _ => k - (intOf i).toNat)
      case atStart => exact ⟨0, rfl, Nat.zero_le _, HU, rfl⟩
      case round =>
        clear HU
        obtain ⟨q, rfl, hq, HU, HB⟩ := hrel
        by_cases hlq : q < k
        · obtain ⟨r2, hr2⟩ := Pl.some_of_lt (show q < l.length by omega)
          obtain ⟨b', u2, e', cu, hu2⟩ := HM.out q r2 hr2
          cases e'
          have Hu2 := hide (hu2.up HU.out)
          have HuU := hide (Hu.out.up HU.out)
          have cu2 := HU.out.cell cu
          have Hr2L := hide (HL.out r2 (Pl.mem_of_some hr2))
          have Hr2C := hide (HC.out r2 (Pl.mem_of_some hr2))
          have HG : Hid (tcG l k q = Vd.cross r2 r) := by unfold tcG; rw [rAt_some hr2, rAt_some Hr.out]; exact rfl
          have i1 : (q : Int) < (l.length : Int) := by omega
          clear hr2 cu hu2
          cases hx : Vd.cross r2 r
          · have HGf := hide (HG.out.trans hx)
            have Hx := hide hx
            clear hx
            go_wp2_with (go_at_call 156; refine (cross_any _ _ r2 r _ Hu2.out HuU.out Hr2L.out HrL.out Hr2C.out HrC.out).mono ?_; rintro e w2 ⟨rfl, u2⟩; rw [Hx.out]; replace u2 := hide u2)
            go_roundw
            case rel => exact ⟨q + 1, by go_num, by omega, HU.out.trans u2.out, anyI_step HB.out HGf.out⟩
            case measure => simp [intOf]; omega
          · have HGt : Hid (Vd.touch l = false) := by
              rw [HS.out, Vd.anyI_true (i := k) hlt (show tcF l k = true from Vd.anyI_true (i := q) hlq (HG.out.trans hx))]; exact rfl
            have Hx := hide hx
            clear hx
            go_wp2_with (go_at_call 156; refine (cross_any _ _ r2 r _ Hu2.out HuU.out Hr2L.out HrL.out Hr2C.out HrC.out).mono ?_; rintro e w2 ⟨rfl, u2⟩; rw [Hx.out]; replace u2 := hide u2)
            go_ret
            exact ⟨ret_b HGt.out.symm, HU.out.trans u2.out⟩
        · have hq2 : q = k := by omega
          subst hq2
          go_wp2
          go_roundw
          case rel => exact ⟨q + 1, by go_num, by omega, HU, anyI_step HA.out HB.out⟩
          case measure => simp [intOf]; omega
    · have hk2 : k = l.length := by omega
      subst hk2
      have HRt : Hid (Vd.touch l = true) := by rw [HS.out, HA.out]; exact rfl
      go_wp2
      go_ret
      exact ⟨ret_b HRt.out.symm, HU.out⟩
end Go.Proofs.YtcclepohmhdpbaaGreatDoor

/- THE WALKS: package clauses: Nested. -/
namespace Go.Proofs.YtcclepohmhdpbaaGreatDoor
set_option linter.all false
open Go.RowKit Go.Deep

theorem rd2_one {w : World} {g : Nat} {t : TypeId} {v : Value} {o : Ring} (h : VRow w g t [v]) (hv : Rd1 w v o) : Rd2 w (.slice (some ⟨g, 0, none⟩) 1 1) [o] := by
  refine ⟨_, _, rfl, fun i r hr => ?_⟩
  cases i with
  | zero => simp at hr; subst hr; exact ⟨g, v, rfl, h.cell (i := 0) rfl, hv⟩
  | succ i => simp at hr
set_option maxHeartbeats 8000000 in
theorem lies_any (v u : Value) (r o : Ring) (K : Int) (w : World) (hv : Rd1 w v r) (hu : Rd1 w u o) (hr : r.length ≤ 1048576) (hr2 : o.length ≤ 1048575) (hc : Vd.CdR r) (hc2 : Vd.CdR o) :
    Calls Tryz.prog 157 #[v, u, .int .i64 K] w fun e w' => e = .returned (.bool (Vd.lies r o K)) ∧ Up w w' := by
  have HV := hide hv
  have HV2 := hide hu
  have HT : Hid (Vd.lies r o K = !((Vd.segs r).any fun s => (Vd.mids s [o]).any fun m => decide (Vd.place o m ≠ K))) := rfl
  have hsl : (Vd.segs r).length ≤ 1048576 := by rw [Vd.segs_len]; omega
  have HC1 : Hid (∀ i s, (Vd.segs r)[i]? = some s → Vd.CdS s) := fun i s hs => Vd.segs_cd hc (Pl.mem_of_some hs)
  have HC2 := hide hc2
  have HCL : Hid (Vd.CdL [o]) := fun x hx => by rw [List.mem_singleton.1 hx]; exact hc2
  obtain ⟨ao, cap, rfl, -⟩ := HV.out
  obtain ⟨ao2, cap2, rfl, -⟩ := HV2.out
  clear hv hu hc hc2
  go_enter Tryz.func157, Tryz.ntmps157
  go_wp2_with fail
  refine (segments_any _ r _ HV.out hr).mono ?_
  rintro e w1 ⟨sv, rfl, u1, ho⟩
  obtain ⟨sa, sc, es⟩ := own_len ho
  subst es
  have HR1 := hide (own_rdG (f := segC) (fun _ => rfl) ho)
  have HU1 := hide u1
  generalize Vd.segs r = L at *
  generalize hf : (fun s => (Vd.mids s [o]).any fun m => decide (Vd.place o m ≠ K)) = f at *
  have HF : Hid (∀ s, f s = (Vd.mids s [o]).any fun m => decide (Vd.place o m ≠ K)) := by subst hf; exact fun _ => rfl
  clear ho u1 hf
  go_wp2_with fail
  go_loopw [14] (fun i wr => ∃ k : Nat, i = .int .i64 k ∧ k ≤ L.length ∧ Hid (Up w1 wr) ∧ Hid ((L.take k).any f = false)) (fun i _ => L.length - (intOf i).toNat)
  case atStart => exact ⟨0, rfl, Nat.zero_le _, Up.refl _, rfl⟩
  case round =>
    obtain ⟨k, rfl, hk, HU, HA⟩ := hrel
    by_cases hlt : k < L.length
    · obtain ⟨⟨⟨ax, ay⟩, ⟨bx, bY⟩⟩, hs⟩ := Pl.some_of_lt hlt
      obtain ⟨g, cap', ev, c0, c1, c2, c3⟩ := (HR1.out.up HU.out).seg hs
      cases ev
      have HCk := hide (HC1.out _ _ hs)
      have Hk := hide hs
      have HX := hide (Pl.any_take_succ f hs)
      simp only at c0 c1 c2 c3
      clear hs
      go_wp2_with fail
      have HUa : Hid (Up w1 ((wr.alloc (.cells #[.int .i64 ax, .int .i64 ay, .int .i64 bx, .int .i64 bY] 191)).alloc (.cells #[.slice ao2 o.length cap2] 30))) := (HU.out.alloc _).alloc _
      have RO : Hid (Rd2 ((wr.alloc (.cells #[.int .i64 ax, .int .i64 ay, .int .i64 bx, .int .i64 bY] 191)).alloc (.cells #[.slice ao2 o.length cap2] 30)) (.slice (some ⟨wr.heap.size + 1, 0, none⟩) 1 1) [o]) := by
        have h1 := new_row (w := wr.alloc (.cells #[.int .i64 ax, .int .i64 ay, .int .i64 bx, .int .i64 bY] 191)) (o := .cells #[.slice ao2 o.length cap2] 30) (vs := [.slice ao2 o.length cap2]) rfl
        rw [show (wr.alloc (.cells #[.int .i64 ax, .int .i64 ay, .int .i64 bx, .int .i64 bY] 191)).heap.size = wr.heap.size + 1 by simp] at h1
        exact rd2_one h1 ((HV2.out.up HU1.out).up HUa.out)
      refine (middles_any ((ax, ay), (bx, bY)) _ [o] _ HCk.out RO.out (by simp) (by intro x hx; rw [List.mem_singleton.1 hx]; omega) (by simp; omega) HCL.out).mono ?_
      rintro e w2 ⟨mv, rfl, u2, ho⟩
      obtain ⟨ma, mc, es⟩ := own_len ho
      subst es
      have HR2 := hide (own_rdG (f := spotC) (fun _ => rfl) ho)
      have HU2 := hide (HUa.out.trans u2)
      have HFk := hide (HF.out ((ax, ay), (bx, bY)))
      have HSp : Hid (∀ i m, (Vd.mids ((ax, ay), (bx, bY)) [o])[i]? = some m → Vd.Sp m) := fun i m hm => Vd.mids_sp HCk.out HCL.out m (Pl.mem_of_some hm)
      have hml : (Vd.mids ((ax, ay), (bx, bY)) [o]).length ≤ 1048576 := by
        have := Vd.mids_len ((ax, ay), (bx, bY)) [o]; simp at this; omega
      generalize Vd.mids ((ax, ay), (bx, bY)) [o] = M at *
      clear ho u2 c0 c1 c2 c3 HUa
      go_wp2_with fail
      go_loopw [23] (fun i wq => ∃ q : Nat, i = .int .i64 q ∧ q ≤ M.length ∧ Hid (Up w2 wq) ∧ Hid ((M.take q).any (fun m => decide (Vd.place o m ≠ K)) = false)) (fun i _ => M.length - (intOf i).toNat)
      case atStart => exact ⟨0, rfl, Nat.zero_le _, Up.refl _, rfl⟩
      case round =>
        obtain ⟨q, rfl, hq, HUq, HB⟩ := hrel
        by_cases hlq : q < M.length
        · obtain ⟨⟨⟨x, y⟩, t⟩, hs2⟩ := Pl.some_of_lt hlq
          obtain ⟨g', cap'', ev, c0, c1, c2⟩ := (HR2.out.up HUq.out).spot hs2
          cases ev
          have HCq := hide (HSp.out _ _ hs2)
          have HY := hide (Pl.any_take_succ (fun m => decide (Vd.place o m ≠ K)) hs2)
          simp only at c0 c1 c2
          have fin : Hid (Vd.place o ((x, y), t) ≠ K → Vd.lies r o K = false) := by
            intro h
            rw [HT.out, Pl.any_true_of f Hk.out (by rw [HFk.out]; exact Pl.any_true_of _ hs2 (decide_eq_true h))]; rfl
          clear hs2
          go_wp2_with fail
          refine (place_any _ o ((x, y), t) _ (((HV2.out.up HU1.out).up (HU2.out.trans HUq.out)).up ((Up.refl _).alloc _)) (by omega) HC2.out HCq.out).mono ?_
          rintro e w3 ⟨rfl, u3⟩
          have HU3 : Hid (Up w2 w3) := (HUq.out.alloc _).trans u3
          clear u3 c0 c1 c2
          by_cases hP : Vd.place o ((x, y), t) = K
          · have HYf : Hid ((M.take (q + 1)).any (fun m => decide (Vd.place o m ≠ K)) = false) := by rw [HY.out, HB.out]; simp [hP, Hid]
            rw [hP]
            clear hP
            go_wp2
            go_roundw
            case rel => exact ⟨q + 1, by go_num, by omega, HU3, HYf⟩
            case measure => simp [intOf]; omega
          · have HGf := hide (fin.out hP)
            have hP' := beq_eq_false_iff_ne.2 hP
            go_wp2
            go_ret
            exact ⟨ret_b HGf.out.symm, (HU1.out.trans HU2.out).trans HU3.out⟩
        · have hq2 : q = M.length := by omega
          subst hq2
          rw [List.take_length] at HB
          go_wp2
          go_roundw
          case rel => exact ⟨k + 1, by go_num, by omega, HU2.out.trans HUq.out, by rw [HX.out, HA.out, HFk.out, HB.out]; exact rfl⟩
          case measure => simp [intOf]; omega
    · have hk2 : k = L.length := by omega
      subst hk2
      rw [List.take_length] at HA
      have HRt : Hid (Vd.lies r o K = true) := by rw [HT.out, HA.out]; exact rfl
      go_wp2
      go_ret
      exact ⟨ret_b HRt.out.symm, HU1.out.trans HU.out⟩

/-- the rounds of areNested. -/
def nsG (l : Poly) (i j : Nat) : Bool := decide (i ≠ j) && !(Vd.lies (Vd.rAt l i) (Vd.rAt l j) (Vd.nestW j))
def nsF (l : Poly) (i : Nat) : Bool := decide (1 ≤ i) && Vd.anyI l.length (nsG l i)
theorem nested_F (l : Poly) : Vd.nested l = !(Vd.anyI l.length (nsF l)) := rfl
theorem nsG_same (l : Poly) (i : Nat) : nsG l i i = false := by unfold nsG; simp
theorem nsG_at {l : Poly} {i j : Nat} (h : i ≠ j) {r o : Ring} (hr : l[i]? = some r) (ho : l[j]? = some o) : nsG l i j = !(Vd.lies r o (Vd.nestW j)) := by unfold nsG; rw [decide_eq_true h, rAt_some hr, rAt_some ho]; rfl
theorem nestW_cases (j : Nat) : (j = 0 ∧ Vd.nestW j = 2) ∨ (j ≠ 0 ∧ Vd.nestW j = 0) := by unfold Vd.nestW; by_cases h : j = 0 <;> simp [h]
set_option maxHeartbeats 8000000 in
theorem nested_any (v : Value) (l : Poly) (w : World) (hv : Rd2 w v l) (hl : l.length ≤ 1048576) (hl2 : ∀ r ∈ l, r.length ≤ 1048575) (hc : Vd.CdL l) :
    Calls Tryz.prog 123 #[v] w fun e w' => e = .returned (.bool (Vd.nested l)) ∧ Up w w' := by
  obtain ⟨ao, cap, rfl, hm⟩ := hv
  have HM := hide hm
  have HC := hide hc
  have HL := hide hl2
  have HS := hide (nested_F l)
  clear hm hc hl2
  go_enter Tryz.func123, Tryz.ntmps123
  go_wp2
  go_loopw [3] (fun i wr => ∃ k : Nat, i = .int .i64 ((k : Int) + 1) ∧ k ≤ l.length ∧ Hid (Up w wr) ∧ Hid (Vd.anyI (k + 1) (nsF l) = false)) (fun i _ => l.length + 1 - (intOf i).toNat)
  case atStart => exact ⟨0, rfl, Nat.zero_le _, Up.refl _, rfl⟩
  case round =>
    obtain ⟨k, rfl, hk, HU, HA⟩ := hrel
    by_cases hlt : k + 1 < l.length
    · obtain ⟨r, hr⟩ := Pl.some_of_lt hlt
      obtain ⟨b, u, rfl, cu, hu⟩ := HM.out (k + 1) r hr
      have Hu := hide hu
      have Hr := hide hr
      have HrL := hide (HL.out r (Pl.mem_of_some hr))
      have HrC := hide (HC.out r (Pl.mem_of_some hr))
      have Hcu := hide cu
      have i2 : (k : Int) + 1 < (l.length : Int) := by omega
      have i3 : (0 : Int) ≤ (k : Int) + 1 := by omega
      clear hr cu hu
      go_wp2
      go_loopw [15] (fun i wr => ∃ q : Nat, i = .int .i64 q ∧ q ≤ l.length ∧ Hid (Up w wr) ∧ Hid (Vd.anyI q (nsG l (k + 1)) = false)) (fun i _ => l.length - (intOf i).toNat)
      case atStart => exact ⟨0, rfl, Nat.zero_le _, HU, rfl⟩
      case round =>
        clear HU
        obtain ⟨q, rfl, hq, HU, HB⟩ := hrel
        by_cases hlq : q < l.length
        · obtain ⟨r2, hr2⟩ := Pl.some_of_lt hlq
          obtain ⟨b', y2, e', cu, hy2⟩ := HM.out q r2 hr2
          cases e'
          have Hu2 := hide (hy2.up HU.out)
          have HuU := hide (Hu.out.up HU.out)
          have cu2 := HU.out.cell cu
          have cu3 := HU.out.cell Hcu.out
          have Hr2L := hide (HL.out r2 (Pl.mem_of_some hr2))
          have Hr2C := hide (HC.out r2 (Pl.mem_of_some hr2))
          have i1 : (q : Int) < (l.length : Int) := by omega
          have hnw := nestW_cases q
          by_cases hqk : k + 1 = q
          · subst hqk
            have HGf : Hid (nsG l (k + 1) (k + 1) = false) := nsG_same _ _
            have j2 : ((k : Int) + 1 == 0) = false := beq_eq_false_iff_ne.2 (by omega)
            clear hr2 cu hy2 hnw i1
            go_wp2
            go_roundw
            case rel => exact ⟨k + 1 + 1, by go_num, by omega, HU, anyI_step HB.out HGf.out⟩
            case measure => simp [intOf]; omega
          · have HG := hide (nsG_at hqk Hr.out hr2)
            have j1 : ((k : Int) + 1 != (q : Int)) = true := bne_iff_ne.2 (by omega)
            clear hqk hr2 cu hy2
            obtain ⟨bq, hb⟩ : ∃ bq, ((q : Int) == 0) = bq := ⟨_, rfl⟩
            go_upto_if 21 with fail
            have Hb := hide hb
            clear hb
            rcases hnw with ⟨hq0, hw⟩ | ⟨hq0, hw⟩
            · obtain rfl : bq = true := by rw [← Hb.out]; exact beq_iff_eq.2 (by omega)
              rw [hw] at HG
              clear hq0 hw
              cases hx : Vd.lies r r2 2
              · have HGt : Hid (Vd.nested l = false) := by
                  rw [HS.out, Vd.anyI_true (i := k + 1) hlt (show nsF l (k + 1) = true by unfold nsF; rw [decide_eq_true (by omega), Bool.true_and]; exact Vd.anyI_true (i := q) hlq (by rw [HG.out, hx]; rfl))]; exact rfl
                have Hx := hide hx
                clear hx
                go_wp2_with (go_at_call 157; refine (lies_any _ _ r r2 2 _ HuU.out Hu2.out (by have := HrL.out; omega) Hr2L.out HrC.out Hr2C.out).mono ?_; rintro e w2 ⟨rfl, hz2⟩; rw [Hx.out]; replace hz2 := hide hz2)
                go_ret
                exact ⟨ret_b HGt.out.symm, HU.out.trans hz2.out⟩
              · have HGf : Hid (nsG l (k + 1) q = false) := by rw [HG.out, hx]; exact rfl
                have Hx := hide hx
                clear hx
                go_wp2_with (go_at_call 157; refine (lies_any _ _ r r2 2 _ HuU.out Hu2.out (by have := HrL.out; omega) Hr2L.out HrC.out Hr2C.out).mono ?_; rintro e w2 ⟨rfl, hz2⟩; rw [Hx.out]; replace hz2 := hide hz2)
                go_roundw
                case rel => exact ⟨q + 1, by go_num, by omega, HU.out.trans hz2.out, anyI_step HB.out HGf.out⟩
                case measure => simp [intOf]; omega
            · obtain rfl : bq = false := by rw [← Hb.out]; exact beq_eq_false_iff_ne.2 (by omega)
              rw [hw] at HG
              clear hq0 hw
              cases hx : Vd.lies r r2 0
              · have HGt : Hid (Vd.nested l = false) := by
                  rw [HS.out, Vd.anyI_true (i := k + 1) hlt (show nsF l (k + 1) = true by unfold nsF; rw [decide_eq_true (by omega), Bool.true_and]; exact Vd.anyI_true (i := q) hlq (by rw [HG.out, hx]; rfl))]; exact rfl
                have Hx := hide hx
                clear hx
                go_wp2_with (go_at_call 157; refine (lies_any _ _ r r2 0 _ HuU.out Hu2.out (by have := HrL.out; omega) Hr2L.out HrC.out Hr2C.out).mono ?_; rintro e w2 ⟨rfl, hz2⟩; rw [Hx.out]; replace hz2 := hide hz2)
                go_ret
                exact ⟨ret_b HGt.out.symm, HU.out.trans hz2.out⟩
              · have HGf : Hid (nsG l (k + 1) q = false) := by rw [HG.out, hx]; exact rfl
                have Hx := hide hx
                clear hx
                go_wp2_with (go_at_call 157; refine (lies_any _ _ r r2 0 _ HuU.out Hu2.out (by have := HrL.out; omega) Hr2L.out HrC.out Hr2C.out).mono ?_; rintro e w2 ⟨rfl, hz2⟩; rw [Hx.out]; replace hz2 := hide hz2)
                go_roundw
                case rel => exact ⟨q + 1, by go_num, by omega, HU.out.trans hz2.out, anyI_step HB.out HGf.out⟩
                case measure => simp [intOf]; omega
        · have hq2 : q = l.length := by omega
          subst hq2
          have HFf : Hid (nsF l (k + 1) = false) := by unfold nsF; rw [HB.out]; simp [Hid]
          go_wp2
          go_roundw
          case rel => exact ⟨k + 1, by go_num, by omega, HU, anyI_step HA.out HFf.out⟩
          case measure => simp [intOf]; omega
    · have HRt : Hid (Vd.nested l = true) := by
        rw [HS.out]
        have h2 : Vd.anyI l.length (nsF l) = false := by
          by_cases e : k + 1 = l.length
          · rw [← e]; exact HA.out
          · by_cases h0 : l.length = 0
            · rw [h0]; rfl
            · have e2 : k = l.length := by omega
              have := HA.out
              rw [Vd.anyI_succ, Bool.or_eq_false_iff, e2] at this
              exact this.1
        rw [h2]; exact rfl
      go_wp2
      go_ret
      exact ⟨ret_b HRt.out.symm, HU.out⟩
end Go.Proofs.YtcclepohmhdpbaaGreatDoor

/- THE WALKS: package clauses: touch points. -/
namespace Go.Proofs.YtcclepohmhdpbaaGreatDoor
set_option linter.all false
open Go.RowKit Go.Deep

theorem own_rd1 {w : World} {base : Nat} {e : TypeId} {v : Value} {l : Ring} (h : w.ownsRow base e 2 v l.length (flat l)) : Rd1 w v l := by
  obtain ⟨ao, cap, ev⟩ := own_len h
  refine ⟨ao, cap, ev, fun i p hp => ?_⟩
  obtain ⟨g, cap', e', hc⟩ := own_cell h (by have := Pl.lt_of_some hp; omega)
  rw [ev] at e'
  cases e'
  have := flat_at _ _ _ hp
  exact ⟨g, rfl, hc _ _ this.1, hc _ _ this.2⟩
theorem mem_take_succ {a : List Pnt} {k : Nat} {q p : Pnt} (h : a[k]? = some q) (h1 : p ∉ a.take k) (h2 : p ≠ q) : p ∉ a.take (k + 1) := by
  rw [Pl.take_one h, List.mem_append, List.mem_singleton]
  rintro (h | h)
  · exact h1 h
  · exact h2 h

set_option maxHeartbeats 4000000 in
theorem isAmong_any (v : Value) (a : Ring) (p : Pnt) (w : World) (hv : Rd1 w v a) (ha : a.length ≤ 1048576) :
    Calls Tryz.prog 198 #[v, ptV p] w fun e w' => e = .returned (.bool (decide (p ∈ a))) ∧ Up w w' := by
  obtain ⟨ao, cap, rfl, hm⟩ := hv
  obtain ⟨px, py⟩ := p
  have HM := hide hm
  clear hm
  simp only [ptV]
  have R0 := hide (new_row (w := w) (o := .cells #[.int .i64 px, .int .i64 py] 32) (vs := [.int .i64 px, .int .i64 py]) rfl)
  have HU0 : Hid (Up w (w.alloc (.cells #[.int .i64 px, .int .i64 py] 32))) := (Up.refl _).alloc _
  go_enter Tryz.func198, Tryz.ntmps198
  go_wp2
  go_loopw [9] (fun i wr => ∃ k : Nat, i = .int .i64 k ∧ k ≤ a.length ∧ Hid (Up w wr) ∧ Hid (VRow wr w.heap.size 32 [.int .i64 px, .int .i64 py]) ∧ Hid ((px, py) ∉ a.take k)) (fun i _ => a.length - (intOf i).toNat)
  case atStart => exact ⟨0, rfl, Nat.zero_le _, HU0, R0, by simp [Hid]⟩
  case round =>
    clear HU0 R0
    obtain ⟨k, rfl, hk, HU, R0, HN⟩ := hrel
    by_cases hlt : k < a.length
    · obtain ⟨⟨qx, qy⟩, hq⟩ := Pl.some_of_lt hlt
      obtain ⟨b, rfl, c0, c1⟩ := HM.out k _ hq
      have d0 := HU.out.cell c0
      have d1 := HU.out.cell c1
      have p0 := fun o => (R0.out.alloc o).cell (i := 0) rfl
      have p1 := fun o => (R0.out.alloc o).cell (i := 1) rfl
      have Hq := hide hq
      dsimp only at d0 d1
      clear hq c0 c1
      by_cases h1 : px = qx
      · by_cases h2 : py = qy
        · subst h1 h2
          have HT : Hid (decide ((px, py) ∈ a) = true) := decide_eq_true (Pl.mem_of_some Hq.out)
          go_wp2
          go_ret
          exact ⟨ret_b HT.out.symm, HU.out.alloc _⟩
        · have HN2 := hide (mem_take_succ Hq.out HN.out (fun e => h2 (by cases e; rfl)))
          subst h1
          have h2' := beq_eq_false_iff_ne.2 h2
          go_wp2
          go_roundw
          case rel => exact ⟨k + 1, by go_num, by omega, HU.out.alloc _, R0.out.alloc _, HN2⟩
          case measure => simp [intOf]; omega
      · have HN2 := hide (mem_take_succ Hq.out HN.out (fun e => h1 (by cases e; rfl)))
        have h1' := beq_eq_false_iff_ne.2 h1
        go_wp2
        go_roundw
        case rel => exact ⟨k + 1, by go_num, by omega, HU.out.alloc _, R0.out.alloc _, HN2⟩
        case measure => simp [intOf]; omega
    · have hk2 : k = a.length := by omega
      subst hk2
      rw [List.take_length] at HN
      have HT : Hid (decide ((px, py) ∈ a) = false) := decide_eq_false HN.out
      go_wp2
      go_ret
      exact ⟨ret_b HT.out.symm, HU.out⟩

/-- the rings so far. -/
def rgN (l : Poly) (p : Pnt) (n : Nat) : List Nat := (List.range n).filter fun i => decide (Vd.place (Vd.rAt l i) (Vd.at1 p) = 1)
theorem rgN_all (l : Poly) (p : Pnt) : rgN l p l.length = Vd.ringsAt l p := rfl
theorem rgN_yes {l : Poly} {p : Pnt} {k : Nat} {r : Ring} (h : l[k]? = some r) (hp : Vd.place r (Vd.at1 p) = 1) : rgN l p (k + 1) = rgN l p k ++ [k] := by
  unfold rgN; rw [List.range_succ, List.filter_append, List.filter_cons, rAt_some h, hp]; rfl
theorem rgN_no {l : Poly} {p : Pnt} {k : Nat} {r : Ring} (h : l[k]? = some r) (hp : Vd.place r (Vd.at1 p) ≠ 1) : rgN l p (k + 1) = rgN l p k := by
  unfold rgN; rw [List.range_succ, List.filter_append, List.filter_cons, rAt_some h, if_neg (by simpa using hp)]; simp
theorem rgN_len (l : Poly) (p : Pnt) (n : Nat) : (rgN l p n).length ≤ n := by unfold rgN; have := List.length_filter_le (fun i => decide (Vd.place (Vd.rAt l i) (Vd.at1 p) = 1)) (List.range n); simpa using this

set_option maxHeartbeats 4000000 in
theorem ringsAt_any (v : Value) (l : Poly) (p : Pnt) (w : World) (hv : Rd2 w v l) (hl : l.length ≤ 1048576) (hl2 : ∀ r ∈ l, r.length ≤ 1048576) (hc : Vd.CdL l) (hp : Vd.Cd p) :
    Calls Tryz.prog 160 #[v, ptV p] w fun e w' => ∃ u, e = .returned u ∧ Up w w' ∧ w'.ownsRow w.heap.size 3 1 u (Vd.ringsAt l p).length (flatG intC (Vd.ringsAt l p)) := by
  obtain ⟨ao, cap, rfl, hm⟩ := hv
  have HM := hide hm
  have HC := hide hc
  have HL := hide hl2
  have HP := hide hp
  have HR := hide (rgN_all l p)
  have HLn := hide (rgN_len l p)
  have HY := hide (fun k r => rgN_yes (l := l) (p := p) (k := k) (r := r))
  have HNo := hide (fun k r => rgN_no (l := l) (p := p) (k := k) (r := r))
  obtain ⟨px, py⟩ := p
  clear hm hc hl2 hp
  simp only [ptV]
  have R0 := hide (new_row (w := w) (o := .cells #[.int .i64 px, .int .i64 py] 32) (vs := [.int .i64 px, .int .i64 py]) rfl)
  have HU0 : Hid (Up w (w.alloc (.cells #[.int .i64 px, .int .i64 py] 32))) := (Up.refl _).alloc _
  go_enter Tryz.func160, Tryz.ntmps160
  go_wp2
  go_loopw [5, 10] (fun av i wr => ∃ (k : Nat) (u : Value), i = .int .i64 k ∧ u = av ∧ k ≤ l.length ∧ Hid (Up w wr) ∧ Hid (VRow wr w.heap.size 32 [.int .i64 px, .int .i64 py]) ∧ Hid (wr.ownsRow w.heap.size 3 1 u (rgN l (px, py) k).length (flatG intC (rgN l (px, py) k)))) (fun _ i _ => l.length - (intOf i).toNat)
  case atStart => exact ⟨0, _, rfl, rfl, Nat.zero_le _, HU0, R0, World.ownsRow_nil _ _ _ _⟩
  case round =>
    clear HU0 R0
    obtain ⟨k, u, rfl, rfl, hk, HU, R0, HO⟩ := hrel
    by_cases hlt : k < l.length
    · obtain ⟨r, hr⟩ := Pl.some_of_lt hlt
      obtain ⟨b, y, rfl, cu, hy⟩ := HM.out k r hr
      have Hy := hide (hy.up HU.out)
      have cu2 := HU.out.cell cu
      have Hr := hide hr
      have HrL := hide (HL.out r (Pl.mem_of_some hr))
      have HrC := hide (HC.out r (Pl.mem_of_some hr))
      have p0 := R0.out.cell (i := 0) rfl
      have p1 := R0.out.cell (i := 1) rfl
      clear hr cu hy
      go_wp2_with fail
      refine (at_any (px, py) _).mono ?_
      rintro e w2 ⟨rfl, hz2⟩
      replace hz2 := hide hz2
      go_wp2_with fail
      refine (place_any _ r (Vd.at1 (px, py)) _ (Hy.out.up hz2.out) HrL.out HrC.out (Vd.at1_sp HP.out)).mono ?_
      rintro e w3 ⟨rfl, hz3⟩
      have HZ := hide (hz2.out.trans hz3)
      have HU3 := hide (HU.out.trans HZ.out)
      have R3 := hide (R0.out.up HZ.out)
      have HO3 := hide (own_up HO.out HZ.out)
      clear hz2 hz3 cu2 p0 p1
      by_cases hx : Vd.place r (Vd.at1 (px, py)) = 1
      · have HE := hide (HY.out k r Hr.out hx)
        rw [hx]
        clear hx
        have HOA := hide (HO3.out.alloc (.cells #[.int .i64 (k : Int)] 3))
        have hb : Hid ((rgN l (px, py) k).length ≤ 1073741824) := by have := HLn.out k; show _ ≤ _; omega
        have hsz := hide HU3.out.size
        go_wp2_with (at_builtin; refine wpList_app el_ints rfl (.tmp 20) (.tmp 22) rfl w.heap.size _ _ _ (by rfl) HOA.out w3.heap.size [.int .i64 (k : Int)] (by rfl) rfl (heap_alloc_new w3 _) (by intro x hx; simp at hx; subst hx; rfl) hb.out (by simp; have := hsz.out; omega) ?_; intro g cap w5 hown5 hg5 hat5 hlt5; replace hown5 := hide hown5; replace hg5 := hide hg5; clear hat5 hlt5)
        go_roundw
        case rel =>
          refine ⟨k + 1, _, by go_num, rfl, by omega, ?_, ?_, ?_⟩
          · exact Fr.up (S := fun _ => False) (((Fr.of_up HU3.out).alloc _).grown hg5.out fun x hx => .inr (own_lt HOA.out hx).1) (fun _ _ h => h)
          · exact (R3.out.alloc _).grown hg5.out (own_row_ne HOA.out (R3.out.alloc _) (by decide))
          · rw [HE.out, flatG_append, List.length_append]; exact hown5.out
        case measure => simp [intOf]; omega
      · have HE := hide (HNo.out k r Hr.out hx)
        have hx' := beq_eq_false_iff_ne.2 hx
        clear hx
        generalize Vd.place r (Vd.at1 (px, py)) = P at *
        go_wp2
        go_roundw
        case rel => exact ⟨k + 1, _, by go_num, rfl, by omega, HU3, R3, by rw [HE.out]; exact HO3⟩
        case measure => simp [intOf]; omega
    · have hk2 : k = l.length := by omega
      subst hk2
      go_wp2
      go_ret
      exact ⟨_, rfl, HU.out, by rw [← HR.out]; exact HO.out⟩
end Go.Proofs.YtcclepohmhdpbaaGreatDoor

/- THE WALKS: package clauses: touchPoints. -/
namespace Go.Proofs.YtcclepohmhdpbaaGreatDoor
set_option linter.all false
open Go.RowKit Go.Deep

/-- the touch points so far. -/
def tpN (l : Poly) (ps : List Pnt) : List Pnt := ps.foldl (Vd.touchF l) []
theorem tpN_snoc (l : Poly) (ps : List Pnt) (p : Pnt) : tpN l (ps ++ [p]) = Vd.touchF l (tpN l ps) p := by unfold tpN; rw [List.foldl_append]; rfl
theorem touchF_len (l : Poly) (a : List Pnt) (p : Pnt) : (Vd.touchF l a p).length ≤ a.length + 1 := by unfold Vd.touchF; split <;> simp
theorem tpN_len (l : Poly) : ∀ (ps : List Pnt) (a : List Pnt), (ps.foldl (Vd.touchF l) a).length ≤ a.length + ps.length := by
  intro ps
  induction ps with
  | nil => intro a; simp
  | cons p t ih => intro a; rw [List.foldl_cons]; have := ih (Vd.touchF l a p); have := touchF_len l a p; simp; omega
theorem touchF_yes {l : Poly} {a : List Pnt} {p : Pnt} (h1 : decide (p ∈ a) = false) (h2 : 1 < (Vd.ringsAt l p).length) : Vd.touchF l a p = a ++ [p] := if_pos ⟨of_decide_eq_false h1, h2⟩
theorem touchF_in {l : Poly} {a : List Pnt} {p : Pnt} (h1 : decide (p ∈ a) = true) : Vd.touchF l a p = a := if_neg fun h => h.1 (of_decide_eq_true h1)
theorem touchF_few {l : Poly} {a : List Pnt} {p : Pnt} (h2 : ¬ 1 < (Vd.ringsAt l p).length) : Vd.touchF l a p = a := if_neg fun h => h2 h.2
theorem ringsAt_len (l : Poly) (p : Pnt) : (Vd.ringsAt l p).length ≤ l.length := rgN_len l p l.length

set_option maxHeartbeats 8000000 in
theorem touchPoints_any (v : Value) (l : Poly) (w : World) (hv : Rd2 w v l) (hl : l.length ≤ 1048576) (hl2 : ∀ r ∈ l, r.length ≤ 1048576) (hf : l.flatten.length ≤ 1048576) (hc : Vd.CdL l) :
    Calls Tryz.prog 158 #[v] w fun e w' => ∃ u, e = .returned u ∧ Up w w' ∧ w'.ownsRow w.heap.size 32 2 u (Vd.touchPts l).length (flat (Vd.touchPts l)) := by
  have HV := hide hv
  obtain ⟨ao, cap, rfl, hm⟩ := hv
  have HM := hide hm
  have HC := hide hc
  have HL := hide hl2
  have HF := hide hf
  clear hm hc hl2 hf
  go_enter Tryz.func158, Tryz.ntmps158
  go_wp2
  go_loopw [3, 10] (fun av i wr => ∃ (k : Nat) (u : Value), i = .int .i64 k ∧ u = av ∧ k ≤ l.length ∧ Hid (Up w wr) ∧ Hid (wr.ownsRow w.heap.size 32 2 u (tpN l (l.take k).flatten).length (flat (tpN l (l.take k).flatten)))) (fun _ i _ => l.length - (intOf i).toNat)
  case atStart => exact ⟨0, _, rfl, rfl, Nat.zero_le _, Up.refl _, World.ownsRow_nil _ _ _ _⟩
  case round =>
    obtain ⟨k, u, rfl, rfl, hk, HU, HO⟩ := hrel
    by_cases hlt : k < l.length
    · obtain ⟨r, hr⟩ := Pl.some_of_lt hlt
      obtain ⟨b, y, rfl, cu, hy⟩ := HM.out k r hr
      obtain ⟨ao2, cap2, rfl, hp⟩ := hy
      have HP := hide hp
      have cu2 := HU.out.cell cu
      have hrl := HL.out r (Pl.mem_of_some hr)
      have HrC := hide (HC.out r (Pl.mem_of_some hr))
      have HFl := hide (flat_take hr)
      have HFb : Hid ((l.take k).flatten.length + r.length ≤ 1048576) := by
        have h1 : (l.take (k + 1)).flatten.length ≤ l.flatten.length := by
          conv => rhs; rw [← List.take_append_drop (k + 1) l, List.flatten_append, List.length_append]
          omega
        rw [flat_take hr, List.length_append] at h1
        have := HF.out
        show _ ≤ _
        omega
      clear hr cu hp
      go_wp2
      clear cu2
      go_loopw [3, 16] (fun av i wr => ∃ (q : Nat) (u : Value), i = .int .i64 q ∧ u = av ∧ q ≤ r.length ∧ Hid (Up w wr) ∧ Hid (wr.ownsRow w.heap.size 32 2 u (tpN l ((l.take k).flatten ++ r.take q)).length (flat (tpN l ((l.take k).flatten ++ r.take q))))) (fun _ i _ => r.length - (intOf i).toNat)
      case atStart => exact ⟨0, _, rfl, rfl, Nat.zero_le _, HU, by rw [List.take_zero, List.append_nil]; exact HO⟩
      case round =>
        clear HU HO
        obtain ⟨q, u, rfl, rfl, hq, HU, HO⟩ := hrel
        by_cases hlq : q < r.length
        · obtain ⟨⟨px, py⟩, hxy⟩ := Pl.some_of_lt hlq
          obtain ⟨b2, rfl, cx, cy⟩ := HP.out q (px, py) hxy
          have cx' := HU.out.cell cx
          have cy' := HU.out.cell cy
          dsimp only at cx' cy'
          have HCp := hide (HrC.out _ (Pl.mem_of_some hxy))
          have HX : Hid (tpN l ((l.take k).flatten ++ r.take (q + 1)) = Vd.touchF l (tpN l ((l.take k).flatten ++ r.take q)) (px, py)) := by
            rw [Pl.take_one hxy, ← List.append_assoc, tpN_snoc]; exact rfl
          have hal : (tpN l ((l.take k).flatten ++ r.take q)).length ≤ 1048576 := by
            have h1 := tpN_len l ((l.take k).flatten ++ r.take q) []
            have h2 := HFb.out
            simp only [List.length_append, List.length_take, List.length_nil] at h1
            unfold tpN
            omega
          generalize hT : tpN l ((l.take k).flatten ++ r.take q) = T at *
          have HO' := hide (own_rd1 HO.out)
          obtain ⟨ta, tc, rfl⟩ := own_len HO.out
          clear hxy cx cy hT
          go_wp2_with fail
          have RP := hide (new_row (w := wr) (o := .cells #[.int .i64 px, .int .i64 py] 32) (vs := [.int .i64 px, .int .i64 py]) rfl)
          refine (isAmong_any _ T (px, py) _ (HO'.out.up ((Up.refl _).alloc _)) hal).mono ?_
          rintro e w2 ⟨rfl, hz2⟩
          have RP2 := hide (RP.out.up hz2)
          have HU2 : Hid (Up w w2) := (HU.out.alloc _).trans hz2
          have HO2 := hide (own_up HO.out (((Up.refl wr).alloc _).trans hz2))
          have p0 := RP2.out.cell (i := 0) rfl
          have p1 := RP2.out.cell (i := 1) rfl
          clear hz2 cx' cy' RP
          cases hin : decide ((px, py) ∈ T)
          · have Hin := hide hin
            clear hin
            go_wp2_with fail
            refine (ringsAt_any _ l (px, py) _ (HV.out.up HU2.out) hl HL.out HC.out HCp.out).mono ?_
            rintro e w3 ⟨rv, rfl, hz3, hro⟩
            obtain ⟨ra, rc, rfl⟩ := own_len hro
            have RP3 := hide (RP2.out.up hz3)
            have HU3 := hide (HU2.out.trans hz3)
            have HO3 := hide (own_up HO2.out hz3)
            have hrn := ringsAt_len l (px, py)
            have g0 := RP3.out.cell (i := 0) rfl
            have g1 := RP3.out.cell (i := 1) rfl
            clear hz3 hro p0 p1
            by_cases hn : 1 < (Vd.ringsAt l (px, py)).length
            · have HE := hide (HX.out.trans (touchF_yes Hin.out hn))
              generalize (Vd.ringsAt l (px, py)).length = n at *
              have HOA := hide (HO3.out.alloc (.cells #[.int .i64 px, .int .i64 py] 32))
              have hb : Hid (T.length ≤ 1073741824) := by show _ ≤ _; omega
              have hsz := hide HU3.out.size
              go_wp2_with (at_builtin; refine wpList_app el_pts rfl (.tmp 31) (.tmp 33) rfl w.heap.size _ _ _ (by rfl) HOA.out w3.heap.size [.int .i64 px, .int .i64 py] (by rfl) rfl (heap_alloc_new w3 _) (by intro x hx; simp at hx; rcases hx with rfl | rfl <;> rfl) hb.out (by simp; have := hsz.out; omega) ?_; intro g cap w5 hown5 hg5 hat5 hlt5; replace hown5 := hide hown5; replace hg5 := hide hg5; clear hat5 hlt5)
              go_roundw
              case rel =>
                refine ⟨q + 1, _, by go_num, rfl, by omega, ?_, ?_⟩
                · exact Fr.up (S := fun _ => False) (((Fr.of_up HU3.out).alloc _).grown hg5.out fun x hx => .inr (own_lt HOA.out hx).1) (fun _ _ h => h)
                · rw [HE.out, flat_append, List.length_append]; exact hown5.out
              case measure => simp [intOf]; omega
            · have HE := hide (HX.out.trans (touchF_few hn))
              generalize (Vd.ringsAt l (px, py)).length = n at *
              go_wp2
              go_roundw
              case rel => exact ⟨q + 1, _, by go_num, rfl, by omega, HU3, by rw [HE.out]; exact HO3⟩
              case measure => simp [intOf]; omega
          · have HE := hide (HX.out.trans (touchF_in hin))
            clear hin
            go_wp2
            go_roundw
            case rel => exact ⟨q + 1, _, by go_num, rfl, by omega, HU2, by rw [HE.out]; exact HO2⟩
            case measure => simp [intOf]; omega
        · have hq2 : q = r.length := by omega
          subst hq2
          rw [List.take_length, ← HFl.out] at HO
          go_wp2
          go_roundw
          case rel => exact ⟨k + 1, _, by go_num, rfl, by omega, HU, HO⟩
          case measure => simp [intOf]; omega
    · have hk2 : k = l.length := by omega
      subst hk2
      rw [List.take_length] at HO
      go_wp2
      go_ret
      exact ⟨_, rfl, HU.out, HO.out⟩
end Go.Proofs.YtcclepohmhdpbaaGreatDoor

/- THE WALKS: package clauses: join. -/
namespace Go.Proofs.YtcclepohmhdpbaaGreatDoor
set_option linter.all false
open Go.RowKit Go.Deep

theorem fI_at {g : List Nat} {i n : Nat} (h : g[i]? = some n) : (flatG intC g)[i]? = some (.int .i64 n) := by
  have := flatG_at (f := intC) (n := 1) (fun _ => rfl) g i n 0 _ h rfl
  simpa using this
theorem fI_len (g : List Nat) : (flatG intC g).length = g.length := by
  induction g with
  | nil => rfl
  | cons a t ih => show ([_] ++ flatG intC t).length = _; simp [ih]
theorem fI_set (g : List Nat) : ∀ (i n : Nat), flatG intC (g.set i n) = (flatG intC g).set i (.int .i64 n) := by
  induction g with
  | nil => intro i n; rfl
  | cons a t ih =>
    intro i n
    cases i with
    | zero => rfl
    | succ i => show flatG intC (a :: t.set i n) = _; show _ :: flatG intC (t.set i n) = _; rw [ih]; rfl
theorem nAt_some {g : List Nat} {i n : Nat} (h : g[i]? = some n) : Vd.nAt g i = n := by unfold Vd.nAt; rw [List.getD_eq_getElem?_getD, h]; rfl
/-- what the inner loop has made so far. -/
def tgN (g : List Nat) (o f q : Nat) : List Nat := (g.take q).map (Vd.turnG o f) ++ g.drop q
theorem tgN_len (g : List Nat) (o f q : Nat) (h : q ≤ g.length) : (tgN g o f q).length = g.length := by unfold tgN; simp; omega
theorem tgN_at {g : List Nat} {o f q n : Nat} (h : g[q]? = some n) : (tgN g o f q)[q]? = some n := by
  unfold tgN
  have := Pl.lt_of_some h
  rw [List.getElem?_append_right (by simp; omega)]
  simp only [List.length_map, List.length_take, Nat.min_eq_left (Nat.le_of_lt this), Nat.sub_self]
  rw [List.getElem?_drop, Nat.add_zero]; exact h
theorem tgN_yes {g : List Nat} {o f q : Nat} (h : g[q]? = some o) : tgN g o f (q + 1) = (tgN g o f q).set q f := by
  unfold tgN
  have hq := Pl.lt_of_some h
  rw [Pl.take_one h, drop_at h, List.set_append_right (h := by simp; omega)]
  simp only [List.length_map, List.length_take, Nat.min_eq_left (Nat.le_of_lt hq), Nat.sub_self, List.map_append, List.map_cons, List.map_nil, List.set_cons_zero]
  rw [show Vd.turnG o f o = f from if_pos rfl]; simp
theorem tgN_no {g : List Nat} {o f q n : Nat} (h : g[q]? = some n) (hn : n ≠ o) : tgN g o f (q + 1) = tgN g o f q := by
  unfold tgN
  rw [Pl.take_one h]
  conv => rhs; rw [drop_at h]
  rw [List.map_append, List.map_cons, List.map_nil, show Vd.turnG o f n = n from if_neg hn]; simp
theorem tgN_all (g : List Nat) (o f : Nat) : tgN g o f g.length = g.map (Vd.turnG o f) := by unfold tgN; simp
theorem joinL_same {g : List Nat} {a j : Nat} {t : List Nat} (h : Vd.nAt g j = Vd.nAt g a) : Vd.joinL g a (j :: t) = none := by unfold Vd.joinL; rw [if_pos h]
theorem joinL_go {g : List Nat} {a j : Nat} {t : List Nat} (h : Vd.nAt g j ≠ Vd.nAt g a) : Vd.joinL g a (j :: t) = Vd.joinL (g.map (Vd.turnG (Vd.nAt g j) (Vd.nAt g a))) a t := by conv => lhs; unfold Vd.joinL; rw [if_neg h]

/-- what join holds: the struct, its groups, those that are joined. -/
structure JN (w wr : World) (lb gb gc base jb jc : Nat) (n : Nat) (js g : List Nat) : Prop where
  fr : Fr (· = gb) w wr
  row : VRow wr lb 184 [.slice (some ⟨gb, 0, none⟩) n gc]
  own : wr.ownsRow base 3 1 (.slice (some ⟨gb, 0, none⟩) n gc) n (flatG intC g)
  len : g.length = n
  jx : ∀ (i j : Nat), js[i]? = some j → wr.cell? ⟨jb, i, none⟩ = some (.int .i64 j)
  ne : lb ≠ gb
  nj : jb ≠ gb
theorem JN.cell {w wr : World} {lb gb gc base jb jc n : Nat} {js g : List Nat} (h : JN w wr lb gb gc base jb jc n js g) {i m : Nat} (hi : g[i]? = some m) : wr.cell? ⟨gb, i, none⟩ = some (.int .i64 m) := by
  have h2 := h.own
  rw [← h.len] at h2
  obtain ⟨g', cap', e', hc⟩ := own_cell h2 (by have := Pl.lt_of_some hi; omega)
  cases e'
  exact hc i _ (fI_at hi)
theorem JN.drew {w wr : World} {lb gb gc base jb jc n : Nat} {js g : List Nat} (h : JN w wr lb gb gc base jb jc n js g) (k : Nat) : JN w (wr.drewN k) lb gb gc base jb jc n js g :=
  ⟨h.fr.drewN k, h.row, own_up h.own ((Up.refl _).drewN k), h.len, h.jx, h.ne, h.nj⟩
theorem JN.set {w wr : World} {lb gb gc base jb jc n : Nat} {js g : List Nat} (h : JN w wr lb gb gc base jb jc n js g) {i : Nat} (hi : i < n) (m : Nat) : JN w (wr.setCell ⟨gb, i, none⟩ (.int .i64 m)) lb gb gc base jb jc n js (g.set i m) := by
  refine ⟨h.fr.setCell rfl _, h.row.setOther h.ne _, ?_, by simp [h.len], fun x y hx => ?_, h.ne, h.nj⟩
  · rw [fI_set]; exact own_stored h.own rfl hi _
  · have := h.jx x y hx
    rw [World.cell?_of_block (Below.heap_setCell _ _ _ _ (by show jb ≠ gb; exact h.nj))]
    exact this

set_option maxHeartbeats 8000000 in
theorem join_any (lb gb gc base jb jc n : Nat) (a : Nat) (t g : List Nat) (w : World) (h0 : JN w w lb gb gc base jb jc n (a :: t) g) (hn : n ≤ 1048576) (ht : t.length < 1048576) (hj : ∀ j ∈ a :: t, j < n) :
    Calls Tryz.prog 159 #[.pointer (some ⟨lb, 0, none⟩), .slice (some ⟨jb, 0, none⟩) (t.length + 1) jc] w fun e w' => e = .returned (.bool (Vd.join g (a :: t)).isSome) ∧ Fr (· = gb) w w' ∧ ∀ g', Vd.join g (a :: t) = some g' → JN w w' lb gb gc base jb jc n (a :: t) g' := by
  have H0 := hide h0
  have HJ := hide hj
  have HE : Hid (Vd.join g (a :: t) = Vd.joinL g a t) := rfl
  clear h0 hj
  go_enter Tryz.func159, Tryz.ntmps159
  go_wp2
  go_loopw [5] (fun i wr => ∃ (k : Nat) (c : List Nat), i = .int .i64 ((k : Int) + 1) ∧ k ≤ t.length ∧ Hid (JN w wr lb gb gc base jb jc n (a :: t) c) ∧ Hid (Vd.join g (a :: t) = Vd.joinL c a (t.drop k))) (fun i _ => t.length + 1 - (intOf i).toNat)
  case atStart => exact ⟨0, g, rfl, Nat.zero_le _, H0, HE⟩
  case round =>
    obtain ⟨k, c, rfl, hk, HN, HX⟩ := hrel
    by_cases hlt : k < t.length
    · obtain ⟨j, hj⟩ := Pl.some_of_lt hlt
      have hjn := HJ.out j (by simp [Pl.mem_of_some hj])
      have han := HJ.out a (by simp)
      have hcl := HN.out.len
      obtain ⟨mj, hmj⟩ := Pl.some_of_lt (show j < c.length by omega)
      obtain ⟨ma, hma⟩ := Pl.some_of_lt (show a < c.length by omega)
      have c0 := HN.out.row.cell (i := 0) rfl
      have c1 := HN.out.jx (k + 1) j (by simpa using hj)
      have c2 := HN.out.jx 0 a rfl
      have c3 := HN.out.cell hmj
      have c4 := HN.out.cell hma
      have HD := hide (drop_at hj)
      have Hj := hide (nAt_some hmj)
      have Ha := hide (nAt_some hma)
      have i1 : (0 : Int) ≤ (k : Int) + 1 := by omega
      have i2 : (k : Int) + 1 < (t.length : Int) + 1 := by omega
      have i3 : (0 : Int) ≤ (j : Int) := by omega
      have i4 : (j : Int) < (n : Int) := by omega
      have i5 : (0 : Int) ≤ (a : Int) := by omega
      have i6 : (a : Int) < (n : Int) := by omega
      have i7 : (0 : Int) < (t.length : Int) + 1 := by omega
      have Hcl := hide hcl
      clear hj hmj hma hcl
      go_wp2
      go_quiet (fail)
      go_wp2
      go_quiet (fail)
      have HNd := hide (fun m => HN.out.drew m)
      by_cases hm : mj = ma
      · have HR : Hid (Vd.join g (a :: t) = none) := by rw [HX.out, HD.out]; exact joinL_same (by rw [Hj.out, Ha.out, hm])
        subst hm
        go_wp2
        go_ret
        exact ⟨ret_b (by rw [HR.out]; rfl), (HNd.out _).fr, fun g' h => by rw [HR.out] at h; cases h⟩
      · have HR : Hid (Vd.join g (a :: t) = Vd.joinL (c.map (Vd.turnG mj ma)) a (t.drop (k + 1))) := by
          rw [HX.out, HD.out, joinL_go (by rw [Hj.out, Ha.out]; exact hm), Hj.out, Ha.out]; exact rfl
        have hm' : ((mj : Int) == (ma : Int)) = false := beq_eq_false_iff_ne.2 (by omega)
        go_wp2
        clear c0 c1 c2 c3 c4 i3 i4 i5 i6 i7 hm'
        go_loopw [43] (fun i wr => ∃ q : Nat, i = .int .i64 q ∧ q ≤ n ∧ Hid (JN w wr lb gb gc base jb jc n (a :: t) (tgN c mj ma q))) (fun i _ => n - (intOf i).toNat)
        case atStart => exact ⟨0, rfl, Nat.zero_le _, by have := HNd.out; unfold tgN; rw [List.take_zero, List.drop_zero]; exact this _⟩
        case round =>
          obtain ⟨q, rfl, hq, HQ⟩ := hrel
          by_cases hlq : q < n
          · obtain ⟨x, hx⟩ := Pl.some_of_lt (show q < c.length by rw [Hcl.out]; exact hlq)
            have d0 := HQ.out.row.cell (i := 0) rfl
            have d1 := HQ.out.cell (tgN_at hx)
            have df := own_frozen HQ.out.own rfl
            have i8 : (q : Int) < (n : Int) := by omega
            by_cases hxm : x = mj
            · subst hxm
              have HY := hide (tgN_yes (f := ma) hx)
              clear hx
              go_wp2
              go_roundw
              case rel => exact ⟨q + 1, by go_num, by omega, by rw [HY.out]; exact HQ.out.set hlq ma⟩
              case measure => simp [intOf]; omega
            · have HY := hide (tgN_no (f := ma) hx hxm)
              have hxm' : ((x : Int) == (mj : Int)) = false := beq_eq_false_iff_ne.2 (by omega)
              clear hx
              go_wp2
              go_roundw
              case rel => exact ⟨q + 1, by go_num, by omega, by rw [HY.out]; exact HQ⟩
              case measure => simp [intOf]; omega
          · have hq2 : q = c.length := by have := Hcl.out; omega
            subst hq2
            rw [tgN_all] at HQ
            go_wp2
            go_roundw
            case rel => exact ⟨k + 1, _, by go_num, by omega, HQ, HR⟩
            case measure => simp [intOf]; omega
    · have hk2 : k = t.length := by omega
      subst hk2
      rw [List.drop_length] at HX
      have HR : Hid (Vd.join g (a :: t) = some c) := HX.out
      go_wp2
      go_ret
      exact ⟨ret_b (by rw [HR.out]; rfl), HN.out.fr, fun g' h => by rw [HR.out] at h; cases h; exact HN.out⟩
end Go.Proofs.YtcclepohmhdpbaaGreatDoor

/- THE WALKS: package clauses: hasWayRound. -/
namespace Go.Proofs.YtcclepohmhdpbaaGreatDoor
set_option linter.all false
open Go.RowKit Go.Deep

theorem touch_more {l : Poly} {p : Pnt} (h : p ∈ Vd.touchPts l) : 1 < (Vd.ringsAt l p).length := by
  have := ((Vd.touch_fold l l.flatten [] List.nodup_nil (by simp)).2 p).1 h
  simpa using this.elim (fun x => by cases x) (fun x => x.2)
theorem touch_in {l : Poly} {p : Pnt} (h : p ∈ Vd.touchPts l) : p ∈ l.flatten := by
  have := ((Vd.touch_fold l l.flatten [] List.nodup_nil (by simp)).2 p).1 h
  exact this.elim (fun x => by cases x) (fun x => x.1)
theorem touch_len (l : Poly) : (Vd.touchPts l).length ≤ l.flatten.length := by
  have := tpN_len l l.flatten []
  rw [List.length_nil, Nat.zero_add] at this
  exact this
theorem fI_range (k : Nat) : flatG intC (List.range (k + 1)) = flatG intC (List.range k) ++ [.int .i64 (k : Int)] := by rw [List.range_succ, flatG_append]; rfl
theorem wayL_none {l : Poly} {p : Pnt} {t : List Pnt} {g : List Nat} (h : Vd.join g (Vd.ringsAt l p) = none) : Vd.wayL l (p :: t) g = true := by unfold Vd.wayL; rw [h]
theorem wayL_some {l : Poly} {p : Pnt} {t : List Pnt} {g g' : List Nat} (h : Vd.join g (Vd.ringsAt l p) = some g') : Vd.wayL l (p :: t) g = Vd.wayL l t g' := by conv => lhs; unfold Vd.wayL; rw [h]
theorem ringsAt_lt {l : Poly} {p : Pnt} {j : Nat} (h : j ∈ Vd.ringsAt l p) : j < l.length := (((Vd.at_ringsAt l).mem j p).1 h).1

/-- what hasWayRound holds. -/
structure WY (w wr : World) (gv : Value) (g : List Nat) : Prop where
  up : Up w wr
  row : VRow wr w.heap.size 184 [gv]
  own : wr.ownsRow w.heap.size 3 1 gv g.length (flatG intC g)
theorem WY.keep {w wr w2 : World} {gv : Value} {g : List Nat} (h : WY w wr gv g) (k : Up wr w2) : WY w w2 gv g := ⟨h.up.trans k, h.row.up k, own_up h.own k⟩

set_option maxHeartbeats 8000000 in
theorem way_any (v : Value) (l : Poly) (w : World) (hv : Rd2 w v l) (hl : l.length ≤ 1048576) (hl2 : ∀ r ∈ l, r.length ≤ 1048576) (hf : l.flatten.length ≤ 1048576) (hc : Vd.CdL l) :
    Calls Tryz.prog 124 #[v] w fun e w' => e = .returned (.bool (Vd.way l)) ∧ Up w w' := by
  have HV := hide hv
  have HC := hide hc
  have HL := hide hl2
  have HF := hide hf
  have HW : Hid (Vd.way l = Vd.wayL l (Vd.touchPts l) (List.range l.length)) := rfl
  obtain ⟨ao, cap, rfl, -⟩ := hv
  clear hc hl2 hf
  have H0 : Hid (WY w (w.alloc (.cells #[.slice none 0 0] 184)) (.slice none 0 0) (List.range 0)) :=
    ⟨(Up.refl _).alloc _, new_row (vs := [_]) rfl, World.ownsRow_nil _ _ _ _⟩
  go_enter Tryz.func124, Tryz.ntmps124
  go_wp2
  go_loopw [9] (fun i wr => ∃ (k : Nat) (gv : Value), i = .int .i64 k ∧ k ≤ l.length ∧ Hid (WY w wr gv (List.range k))) (fun i _ => l.length - (intOf i).toNat)
  case atStart => exact ⟨0, _, rfl, Nat.zero_le _, H0⟩
  case round =>
    clear H0
    obtain ⟨k, gv, rfl, hk, HN⟩ := hrel
    by_cases hlt : k < l.length
    · have c0 := HN.out.row.cell (i := 0) rfl
      have HOA : Hid ((wr.alloc (.cells #[.int .i64 (k : Int)] 3)).ownsRow w.heap.size 3 1 gv k (flatG intC (List.range k))) := by
        have := HN.out.own.alloc (.cells #[.int .i64 (k : Int)] 3)
        rw [List.length_range] at this
        exact this
      have hb : Hid (k ≤ 1073741824) := by show _ ≤ _; omega
      have hsz := hide HN.out.up.size
      have RA := hide (HN.out.row.alloc (.cells #[.int .i64 (k : Int)] 3))
      go_wp2_with (at_builtin; refine wpList_app el_ints rfl (.tmp 13) (.tmp 15) rfl w.heap.size _ _ _ (by rfl) HOA.out wr.heap.size [.int .i64 (k : Int)] (by rfl) rfl (heap_alloc_new wr _) (by intro x hx; simp at hx; subst hx; rfl) hb.out (by simp; have := hsz.out; omega) ?_; intro g cap w5 hown5 hg5 hat5 hlt5; have R5 := hide (RA.out.grown hg5 (own_row_ne HOA.out RA.out (by decide))); have d0 := R5.out.cell (i := 0) rfl; have df := R5.out.frozen 0; replace hown5 := hide hown5; replace hg5 := hide hg5; clear hat5 hlt5)
      go_roundw
      case rel =>
        refine ⟨k + 1, .slice (some ⟨g, 0, none⟩) (k + 1) cap, by go_num, by omega, ?_, ?_, ?_⟩
        · exact (Fr.up (S := fun _ => False) (((Fr.of_up HN.out.up).alloc _).grown hg5.out fun x hx => .inr (own_lt HOA.out hx).1) (fun _ _ h => h)).setCell (Nat.le_refl _) _
        · exact R5.out.set 0 _
        · rw [List.length_range, fI_range]
          exact own_set hown5.out (own_row_ne hown5.out R5.out (by decide)) _
      case measure => simp [intOf]; omega
    · have hk2 : k = l.length := by omega
      subst hk2
      go_wp2_with fail
      refine (touchPoints_any _ l _ (HV.out.up HN.out.up) hl HL.out HF.out HC.out).mono ?_
      rintro e w2 ⟨tv, rfl, hz2, hto⟩
      obtain ⟨ta, tc, rfl⟩ := own_len hto
      have HN2 := hide (HN.out.keep hz2)
      have HTo := hide hto
      have HTb := hide HN.out.up.size
      have htl : (Vd.touchPts l).length ≤ 1048576 := Nat.le_trans (touch_len l) HF.out
      have HM : Hid (∀ i p, (Vd.touchPts l)[i]? = some p → 1 < (Vd.ringsAt l p).length ∧ Vd.Cd p) := fun i p hp => ⟨touch_more (Pl.mem_of_some hp), by
        obtain ⟨r, h1, h2⟩ := List.mem_flatten.1 (touch_in (Pl.mem_of_some hp)); exact HC.out r h1 p h2⟩
      generalize Vd.touchPts l = T at *
      clear hz2 hto HN
      go_wp2_with fail
      go_loopw [22] (fun i wq => ∃ (k : Nat) (g : List Nat), i = .int .i64 k ∧ k ≤ T.length ∧ Hid (WY w wq gv g) ∧ Hid (g.length = l.length) ∧ Hid (wq.ownsRow wr.heap.size 32 2 (.slice ta T.length tc) T.length (flat T)) ∧ Hid (Vd.way l = Vd.wayL l (T.drop k) g)) (fun i _ => T.length - (intOf i).toNat)
      case atStart => exact ⟨0, _, rfl, Nat.zero_le _, HN2, List.length_range, HTo, HW⟩
      case round =>
        clear HN2 HTo
        obtain ⟨k, g, rfl, hk, HN, HG, HTo, HX⟩ := hrel
        by_cases hlt : k < T.length
        · obtain ⟨⟨px, py⟩, hp⟩ := Pl.some_of_lt hlt
          obtain ⟨hrn, hcp⟩ := HM.out k _ hp
          obtain ⟨ta', tc', ev, htr⟩ := own_rd1 HTo.out
          cases ev
          obtain ⟨b, rfl, c0, c1⟩ := htr k _ hp
          dsimp only at c0 c1
          have HCp := hide hcp
          have HD := hide (drop_at hp)
          have Hrn := hide hrn
          clear hp hcp hrn htr
          go_wp2_with fail
          refine (ringsAt_any _ l (px, py) _ ((HV.out.up HN.out.up).up ((Up.refl _).alloc _)) hl HL.out HC.out HCp.out).mono ?_
          rintro e w3 ⟨jv, rfl, hz3, hjo⟩
          obtain ⟨a, t, hJ⟩ : ∃ a t, Vd.ringsAt l (px, py) = a :: t := by
            cases hr : Vd.ringsAt l (px, py) with
            | nil => have := Hrn.out; rw [hr] at this; simp at this
            | cons a t => exact ⟨a, t, rfl⟩
          have HJL := hide (fun j (h : j ∈ Vd.ringsAt l (px, py)) => ringsAt_lt h)
          have hjl := ringsAt_len l (px, py)
          have HWn := hide (fun t' g' => wayL_none (l := l) (p := (px, py)) (t := t') (g := g'))
          have HWs := hide (fun t' g' g'' => wayL_some (l := l) (p := (px, py)) (t := t') (g := g') (g' := g''))
          rw [hJ] at hjo HJL hjl HWn HWs
          obtain ⟨jb, jc, ej, hjc⟩ := own_cell hjo (by simp)
          subst ej
          have hn0 : 0 < g.length := by
            rw [HG.out]
            have := HJL.out a (by simp)
            omega
          obtain ⟨gb, gc, eg, -⟩ := own_cell HN.out.own hn0
          subst eg
          have hgn := HG.out
          rw [hgn] at HN
          have hgb : w.heap.size ≤ gb ∧ gb < wr.heap.size := own_lt HN.out.own rfl
          have hjb : wr.heap.size + 1 ≤ jb ∧ jb < w3.heap.size := by have := own_lt hjo (g := jb) rfl; simpa using this
          have HN3 := hide (HN.out.keep (((Up.refl _).alloc _).trans hz3))
          have hne : w.heap.size ≠ gb := fun e => own_row_ne HN.out.own HN.out.row (by decide) (by rw [e]; rfl)
          have HJ : Hid (JN w3 w3 w.heap.size gb gc w.heap.size jb jc l.length (a :: t) g) := by
            refine ⟨Fr.refl _ _, HN3.out.row, ?_, HG.out, fun i j hj => hjc i _ (fI_at hj), hne, by omega⟩
            have := HN3.out.own
            rw [hgn] at this
            exact this
          have HTo3 := hide (own_up HTo.out (((Up.refl _).alloc _).trans hz3))
          have Hgb := hide hgb
          clear hjo hz3 hjc hgn hn0 hne hgb hjb c0 c1 HN HTo
          simp only [List.length_cons] at hjl
          go_wp2_with fail
          refine (join_any w.heap.size gb gc w.heap.size jb jc l.length a t g _ HJ.out hl (by omega) HJL.out).mono ?_
          rintro e w4 ⟨rfl, hfr, hjn⟩
          have HU4 : Hid (Up w w4) := Fr.up (S := fun b => b = gb) ((Fr.of_up HN3.out.up).trans hfr) (fun x hx e => by have := Hgb.out; omega)
          have HTo4 := hide (own_fr HTo3.out hfr fun x hx e => by
            have h1 := own_type HTo3.out hx
            have h2 := own_type HN3.out.own (g := gb) rfl
            obtain ⟨q1, h1⟩ := h1
            obtain ⟨q2, h2⟩ := h2
            rw [e, h2] at h1
            simp at h1)
          cases hj : Vd.join g (a :: t) with
          | none =>
            have HR : Hid (Vd.way l = true) := by rw [HX.out, HD.out]; exact HWn.out _ _ hj
            clear hjn hfr
            go_wp2
            go_ret
            exact ⟨ret_b HR.out.symm, HU4.out⟩
          | some g' =>
            have HR : Hid (Vd.way l = Vd.wayL l (T.drop (k + 1)) g') := by rw [HX.out, HD.out]; exact HWs.out _ _ _ hj
            have HJ4 := hide (hjn g' hj)
            clear hjn hfr
            go_wp2
            go_roundw
            case rel =>
              refine ⟨k + 1, g', by go_num, by omega, ?_, HJ4.out.len, HTo4, HR⟩
              rw [HG.out]
              exact ⟨HU4.out, HJ4.out.row, by have := HJ4.out.own; rw [HJ4.out.len]; exact this⟩
            case measure => simp [intOf]; omega
        · have hk2 : k = T.length := by omega
          subst hk2
          rw [List.drop_length] at HX
          have HR : Hid (Vd.way l = false) := HX.out
          go_wp2
          go_ret
          exact ⟨ret_b HR.out.symm, HN.out.up⟩
end Go.Proofs.YtcclepohmhdpbaaGreatDoor

/- THE WALKS: package clauses: isFree, boundsCross, enters. -/
namespace Go.Proofs.YtcclepohmhdpbaaGreatDoor
set_option linter.all false
open Go.RowKit Go.Deep

theorem freeL_on {r : Ring} {t : List Ring} {b f : Bool} {p : Vd.Spot} (h : Vd.place r p = 1) : Vd.freeL (r :: t) b f p = false := by unfold Vd.freeL; rw [if_pos h]
theorem freeL_go {r : Ring} {t : List Ring} {b f : Bool} {p : Vd.Spot} (h : Vd.place r p ≠ 1) : Vd.freeL (r :: t) b f p = Vd.freeL t false (f || (b && decide (Vd.place r p = 0)) || (!b && decide (Vd.place r p = 2))) p := by conv => lhs; unfold Vd.freeL; rw [if_neg h]
theorem place_range (r : Ring) (p : Vd.Spot) : ∀ (l : List Vd.Seg) (i : Bool), Vd.placeL l i p = 0 ∨ Vd.placeL l i p = 1 ∨ Vd.placeL l i p = 2 := by
  intro l
  induction l with
  | nil => intro i; cases i <;> simp [Vd.placeL]
  | cons s l ih =>
    intro i
    unfold Vd.placeL
    split
    · simp
    · exact ih _

set_option maxHeartbeats 8000000 in
theorem free_any (v : Value) (l : Poly) (p : Vd.Spot) (w : World) (hv : Rd2 w v l) (hl : l.length ≤ 1048576) (hl2 : ∀ r ∈ l, r.length ≤ 1048576) (hc : Vd.CdL l) (hp : Vd.Sp p) :
    Calls Tryz.prog 163 #[v, spotV p] w fun e w' => e = .returned (.bool (Vd.free l p)) ∧ Up w w' := by
  obtain ⟨ao, cap, rfl, hm⟩ := hv
  have HM := hide hm
  have HC := hide hc
  have HL := hide hl2
  have HP := hide hp
  obtain ⟨⟨x, y⟩, t⟩ := p
  clear hm hc hl2 hp
  simp only [spotV]
  have R0 := hide (new_row (w := w) (o := .cells #[.int .i64 x, .int .i64 y, .int .i64 t] 127) (vs := [.int .i64 x, .int .i64 y, .int .i64 t]) rfl)
  have HU0 : Hid (Up w (w.alloc (.cells #[.int .i64 x, .int .i64 y, .int .i64 t] 127))) := (Up.refl _).alloc _
  go_enter Tryz.func163, Tryz.ntmps163
  go_wp2
  go_loopw [5, 11] (fun fv i wr => ∃ (k : Nat) (f : Bool), i = .int .i64 k ∧ fv = .bool f ∧ k ≤ l.length ∧ Hid (Up w wr) ∧ Hid (VRow wr w.heap.size 127 [.int .i64 x, .int .i64 y, .int .i64 t]) ∧ Hid (Vd.free l ((x, y), t) = Vd.freeL (l.drop k) (decide (k = 0)) f ((x, y), t))) (fun _ i _ => l.length - (intOf i).toNat)
  case atStart => exact ⟨0, false, rfl, rfl, Nat.zero_le _, HU0, R0, rfl⟩
  case round =>
    clear HU0 R0
    obtain ⟨k, f, rfl, rfl, hk, HU, R0, HE⟩ := hrel
    by_cases hlt : k < l.length
    · obtain ⟨r, hr⟩ := Pl.some_of_lt hlt
      obtain ⟨b, z, rfl, cu, hz⟩ := HM.out k r hr
      have Hz := hide (hz.up HU.out)
      have cu2 := HU.out.cell cu
      have HrL := hide (HL.out r (Pl.mem_of_some hr))
      have HrC := hide (HC.out r (Pl.mem_of_some hr))
      have p0 := R0.out.cell (i := 0) rfl
      have p1 := R0.out.cell (i := 1) rfl
      have p2 := R0.out.cell (i := 2) rfl
      rw [drop_at hr] at HE
      clear hr cu hz
      go_wp2_with fail
      refine (place_any _ r ((x, y), t) _ Hz.out HrL.out HrC.out HP.out).mono ?_
      rintro e w2 ⟨rfl, hz2⟩
      have HU2 := hide (HU.out.trans hz2)
      have R2 := hide (R0.out.up hz2)
      clear hz2 cu2 p0 p1 p2
      by_cases h1 : Vd.place r ((x, y), t) = 1
      · have HR := hide (HE.out.trans (freeL_on h1))
        rw [h1]
        go_wp2
        go_ret
        exact ⟨ret_b HR.out.symm, HU2.out⟩
      · have HR := hide (HE.out.trans (freeL_go h1))
        generalize Vd.place r ((x, y), t) = P at *
        have h1' := beq_eq_false_iff_ne.2 h1
        by_cases hk0 : k = 0
        · have HK := hide hk0
          rw [decide_eq_true hk0] at HR
          have j1 : ((k : Int) == 0) = true := beq_iff_eq.2 (by omega)
          clear hk0
          by_cases h0 : P = 0
          · have HR2 : Hid (Vd.free l ((x, y), t) = Vd.freeL (l.drop (k + 1)) (decide (k + 1 = 0)) true ((x, y), t)) := by
              rw [HR.out, h0]; simp [Hid]
            subst h0
            go_wp2
            go_roundw
            case rel => exact ⟨k + 1, true, by rw [HK.out]; rfl, rfl, by omega, HU2, R2, HR2⟩
            case measure => simp [intOf]; omega
          · have HR2 : Hid (Vd.free l ((x, y), t) = Vd.freeL (l.drop (k + 1)) (decide (k + 1 = 0)) f ((x, y), t)) := by
              rw [HR.out]; simp [Hid, h0]
            have h0' := beq_eq_false_iff_ne.2 h0
            go_wp2
            go_roundw
            case rel => exact ⟨k + 1, f, by rw [HK.out]; rfl, rfl, by omega, HU2, R2, HR2⟩
            case measure => simp [intOf]; omega
        · rw [decide_eq_false hk0] at HR
          have j1 : ((k : Int) == 0) = false := beq_eq_false_iff_ne.2 (by omega)
          have j2 : (0 : Int) < (k : Int) := by omega
          clear hk0
          by_cases h2 : P = 2
          · have HR2 : Hid (Vd.free l ((x, y), t) = Vd.freeL (l.drop (k + 1)) (decide (k + 1 = 0)) true ((x, y), t)) := by
              rw [HR.out, h2]; simp [Hid]
            subst h2
            go_wp2
            go_roundw
            case rel => exact ⟨k + 1, true, by go_num, rfl, by omega, HU2, R2, HR2⟩
            case measure => simp [intOf]; omega
          · have HR2 : Hid (Vd.free l ((x, y), t) = Vd.freeL (l.drop (k + 1)) (decide (k + 1 = 0)) f ((x, y), t)) := by
              rw [HR.out]; simp [Hid, h2]
            have h2' := beq_eq_false_iff_ne.2 h2
            go_wp2
            go_roundw
            case rel => exact ⟨k + 1, f, by go_num, rfl, by omega, HU2, R2, HR2⟩
            case measure => simp [intOf]; omega
    · have hk2 : k = l.length := by omega
      subst hk2
      rw [List.drop_length] at HE
      go_wp2
      go_ret
      exact ⟨ret_b HE.out.symm, HU.out⟩

set_option maxHeartbeats 4000000 in
theorem bounds_any (v u : Value) (a c : Poly) (w : World) (hv : Rd2 w v a) (hu : Rd2 w u c) (hl : a.length ≤ 1048576) (hl2 : ∀ r ∈ a, r.length ≤ 1048576) (hm : c.length ≤ 1048576) (hm2 : ∀ r ∈ c, r.length ≤ 1048576) (hc : Vd.CdL a) (hd : Vd.CdL c) :
    Calls Tryz.prog 125 #[v, u] w fun e w' => e = .returned (.bool (Vd.boundsX a c)) ∧ Up w w' := by
  obtain ⟨ao, cap, rfl, hM⟩ := hv
  obtain ⟨ao2, cap2, rfl, hM2⟩ := hu
  have HM := hide hM
  have HM2 := hide hM2
  have HC := hide hc
  have HL := hide hl2
  have HD := hide hd
  have HL2 := hide hm2
  have HT : Hid (Vd.boundsX a c = a.any fun r => c.any fun o => Vd.cross r o) := rfl
  generalize hf : (fun r => c.any fun o => Vd.cross r o) = f at *
  have HF : Hid (∀ s, f s = c.any fun o => Vd.cross s o) := by subst hf; exact fun _ => rfl
  clear hM hM2 hc hd hl2 hm2 hf
  go_enter Tryz.func125, Tryz.ntmps125
  go_wp2
  go_loopw [11] (fun i wr => ∃ k : Nat, i = .int .i64 k ∧ k ≤ a.length ∧ Hid (Up w wr) ∧ Hid ((a.take k).any f = false)) (fun i _ => a.length - (intOf i).toNat)
  case atStart => exact ⟨0, rfl, Nat.zero_le _, Up.refl _, rfl⟩
  case round =>
    obtain ⟨k, rfl, hk, HU, HA⟩ := hrel
    by_cases hlt : k < a.length
    · obtain ⟨r, hr⟩ := Pl.some_of_lt hlt
      obtain ⟨b, z, rfl, cu, hz⟩ := HM.out k r hr
      obtain ⟨za, zc, rfl, -⟩ := id hz
      have Hz := hide hz
      have cu2 := HU.out.cell cu
      have Hr := hide hr
      have HrL := hide (HL.out r (Pl.mem_of_some hr))
      have HrC := hide (HC.out r (Pl.mem_of_some hr))
      have HX := hide (Pl.any_take_succ f hr)
      clear hr cu hz
      go_wp2
      clear cu2
      go_loopw [17] (fun i wr => ∃ q : Nat, i = .int .i64 q ∧ q ≤ c.length ∧ Hid (Up w wr) ∧ Hid ((c.take q).any (fun o => Vd.cross r o) = false)) (fun i _ => c.length - (intOf i).toNat)
      case atStart => exact ⟨0, rfl, Nat.zero_le _, HU, rfl⟩
      case round =>
        clear HU
        obtain ⟨q, rfl, hq, HU, HB⟩ := hrel
        by_cases hlq : q < c.length
        · obtain ⟨o, ho⟩ := Pl.some_of_lt hlq
          obtain ⟨b', z', rfl, cu, hz⟩ := HM2.out q o ho
          have Hz2 := hide (hz.up HU.out)
          have HzU := hide (Hz.out.up HU.out)
          have cu2 := HU.out.cell cu
          have HoL := hide (HL2.out o (Pl.mem_of_some ho))
          have HoC := hide (HD.out o (Pl.mem_of_some ho))
          have HY := hide (Pl.any_take_succ (fun o => Vd.cross r o) ho)
          have Ho := hide ho
          clear ho cu hz
          cases hx : Vd.cross r o
          · have Hx := hide hx
            clear hx
            go_wp2_with (go_at_call 156; refine (cross_any _ _ r o _ HzU.out Hz2.out HrL.out HoL.out HrC.out HoC.out).mono ?_; rintro e w2 ⟨rfl, hz2⟩; rw [Hx.out]; replace hz2 := hide hz2)
            go_roundw
            case rel => exact ⟨q + 1, by go_num, by omega, HU.out.trans hz2.out, by rw [HY.out, HB.out, Hx.out]; exact rfl⟩
            case measure => simp [intOf]; omega
          · have Hx := hide hx
            have HR : Hid (Vd.boundsX a c = true) := by rw [HT.out]; exact Pl.any_true_of f Hr.out (by rw [HF.out]; exact Pl.any_true_of _ Ho.out hx)
            clear hx
            go_wp2_with (go_at_call 156; refine (cross_any _ _ r o _ HzU.out Hz2.out HrL.out HoL.out HrC.out HoC.out).mono ?_; rintro e w2 ⟨rfl, hz2⟩; rw [Hx.out]; replace hz2 := hide hz2)
            go_ret
            exact ⟨ret_b HR.out.symm, HU.out.trans hz2.out⟩
        · have hq2 : q = c.length := by omega
          subst hq2
          rw [List.take_length] at HB
          go_wp2
          go_roundw
          case rel => exact ⟨k + 1, by go_num, by omega, HU, by rw [HX.out, HA.out, HF.out, HB.out]; exact rfl⟩
          case measure => simp [intOf]; omega
    · have hk2 : k = a.length := by omega
      subst hk2
      rw [List.take_length] at HA
      have HR : Hid (Vd.boundsX a c = false) := by rw [HT.out]; exact HA.out
      go_wp2
      go_ret
      exact ⟨ret_b HR.out.symm, HU.out⟩
end Go.Proofs.YtcclepohmhdpbaaGreatDoor

/- THE WALKS: package clauses: enters, overlap. -/
namespace Go.Proofs.YtcclepohmhdpbaaGreatDoor
set_option linter.all false
open Go.RowKit Go.Deep

set_option maxHeartbeats 8000000 in
theorem enters_any (v u : Value) (a c : Poly) (w : World) (hv : Rd2 w v a) (hu : Rd2 w u c) (hl : a.length ≤ 1048576) (hl2 : ∀ r ∈ a, r.length ≤ 1048576) (hm : c.length ≤ 1048576) (hm2 : ∀ r ∈ c, r.length ≤ 1048576) (hmf : c.flatten.length ≤ 1048575) (hc : Vd.CdL a) (hd : Vd.CdL c) :
    Calls Tryz.prog 126 #[v, u] w fun e w' => e = .returned (.bool (Vd.enters a c)) ∧ Up w w' := by
  have HV2 := hide hu
  obtain ⟨ao, cap, rfl, hM⟩ := hv
  obtain ⟨ao2, cap2, rfl, -⟩ := hu
  have HM := hide hM
  have HC := hide hc
  have HL := hide hl2
  have HD := hide hd
  have HL2 := hide hm2
  have HMF := hide hmf
  have HT : Hid (Vd.enters a c = a.any fun r => (Vd.segs r).any fun s => (Vd.mids s c).any fun m => !(Vd.free c m)) := rfl
  generalize hh : (fun s => (Vd.mids s c).any fun m => !(Vd.free c m)) = h at *
  have HH : Hid (∀ s, h s = (Vd.mids s c).any fun m => !(Vd.free c m)) := by subst hh; exact fun _ => rfl
  clear hh
  generalize hf : (fun r => (Vd.segs r).any h) = f at *
  have HF : Hid (∀ r, f r = (Vd.segs r).any h) := by subst hf; exact fun _ => rfl
  clear hM hc hd hl2 hm2 hf hmf
  go_enter Tryz.func126, Tryz.ntmps126
  go_wp2
  go_loopw [13] (fun i wr => ∃ k : Nat, i = .int .i64 k ∧ k ≤ a.length ∧ Hid (Up w wr) ∧ Hid ((a.take k).any f = false)) (fun i _ => a.length - (intOf i).toNat)
  case atStart => exact ⟨0, rfl, Nat.zero_le _, Up.refl _, rfl⟩
  case round =>
    obtain ⟨k, rfl, hk, HU, HA⟩ := hrel
    by_cases hlt : k < a.length
    · obtain ⟨r, hr⟩ := Pl.some_of_lt hlt
      obtain ⟨b, z, rfl, cu, hz⟩ := HM.out k r hr
      have Hz := hide (hz.up HU.out)
      have cu2 := HU.out.cell cu
      have Hr := hide hr
      have HrL := hide (HL.out r (Pl.mem_of_some hr))
      have HC1 : Hid (∀ i s, (Vd.segs r)[i]? = some s → Vd.CdS s) := fun i s hs => Vd.segs_cd (HC.out r (Pl.mem_of_some Hr.out)) (Pl.mem_of_some hs)
      have HX := hide (Pl.any_take_succ f hr)
      have hsl : (Vd.segs r).length ≤ 1048576 := by rw [Vd.segs_len]; have := HrL.out; omega
      clear hr cu hz
      go_wp2_with fail
      refine (segments_any _ r _ Hz.out HrL.out).mono ?_
      rintro e w1 ⟨sv, rfl, hz1, ho⟩
      obtain ⟨sa, sc, es⟩ := own_len ho
      subst es
      have HR1 := hide (own_rdG (f := segC) (fun _ => rfl) ho)
      have HU1 := hide (HU.out.trans hz1)
      have HFr := hide (HF.out r)
      generalize Vd.segs r = L at *
      clear ho hz1 cu2
      go_wp2_with fail
      go_loopw [20] (fun i wr => ∃ q : Nat, i = .int .i64 q ∧ q ≤ L.length ∧ Hid (Up w1 wr) ∧ Hid ((L.take q).any h = false)) (fun i _ => L.length - (intOf i).toNat)
      case atStart => exact ⟨0, rfl, Nat.zero_le _, Up.refl _, rfl⟩
      case round =>
        clear HU
        obtain ⟨q, rfl, hq, HU, HB⟩ := hrel
        by_cases hlq : q < L.length
        · obtain ⟨⟨⟨ax, ay⟩, ⟨bx, bY⟩⟩, hs⟩ := Pl.some_of_lt hlq
          obtain ⟨g, cap', ev, c0, c1, c2, c3⟩ := (HR1.out.up HU.out).seg hs
          cases ev
          have HCk := hide (HC1.out _ _ hs)
          have Hk := hide hs
          have HY := hide (Pl.any_take_succ h hs)
          simp only at c0 c1 c2 c3
          clear hs
          go_wp2_with fail
          refine (middles_any ((ax, ay), (bx, bY)) _ c _ HCk.out ((HV2.out.up HU1.out).up (HU.out.alloc _)) hm HL2.out (by have := HMF.out; omega) HD.out).mono ?_
          rintro e w2 ⟨mv, rfl, hz2, ho⟩
          obtain ⟨ma, mc, es⟩ := own_len ho
          subst es
          have HR2 := hide (own_rdG (f := spotC) (fun _ => rfl) ho)
          have HU2 : Hid (Up w1 w2) := (HU.out.alloc _).trans hz2
          have HFk := hide (HH.out ((ax, ay), (bx, bY)))
          have HSp : Hid (∀ i m, (Vd.mids ((ax, ay), (bx, bY)) c)[i]? = some m → Vd.Sp m) := fun i m hm => Vd.mids_sp HCk.out HD.out m (Pl.mem_of_some hm)
          have hml : (Vd.mids ((ax, ay), (bx, bY)) c).length ≤ 1048576 := by
            have := Vd.mids_len ((ax, ay), (bx, bY)) c; have := HMF.out; omega
          generalize Vd.mids ((ax, ay), (bx, bY)) c = M at *
          clear ho hz2 c0 c1 c2 c3
          go_wp2_with fail
          go_loopw [28] (fun i wr => ∃ q : Nat, i = .int .i64 q ∧ q ≤ M.length ∧ Hid (Up w2 wr) ∧ Hid ((M.take q).any (fun m => !(Vd.free c m)) = false)) (fun i _ => M.length - (intOf i).toNat)
          case atStart => exact ⟨0, rfl, Nat.zero_le _, Up.refl _, rfl⟩
          case round =>
            obtain ⟨n, rfl, hn, HUn, HBn⟩ := hrel
            by_cases hln : n < M.length
            · obtain ⟨⟨⟨x, y⟩, t⟩, hs2⟩ := Pl.some_of_lt hln
              obtain ⟨g', cap'', ev, c0, c1, c2⟩ := (HR2.out.up HUn.out).spot hs2
              cases ev
              have HCn := hide (HSp.out _ _ hs2)
              have HZ := hide (Pl.any_take_succ (fun m => !(Vd.free c m)) hs2)
              simp only at c0 c1 c2
              have fin : Hid (Vd.free c ((x, y), t) = false → Vd.enters a c = true) := by
                intro hx
                rw [HT.out]
                exact Pl.any_true_of f Hr.out (by rw [HFr.out]; exact Pl.any_true_of h Hk.out (by rw [HFk.out]; exact Pl.any_true_of _ hs2 (by rw [hx]; rfl)))
              clear hs2
              cases hx : Vd.free c ((x, y), t)
              · have Hx := hide hx
                have HR := hide (fin.out hx)
                clear hx
                go_wp2_with (go_at_call 163; refine (free_any _ c ((x, y), t) _ ((HV2.out.up (HU1.out.trans (HU2.out.trans HUn.out))).up ((Up.refl _).alloc _)) hm HL2.out HD.out HCn.out).mono ?_; rintro e w3 ⟨rfl, hz3⟩; rw [Hx.out]; replace hz3 := hide hz3)
                go_ret
                exact ⟨ret_b HR.out.symm, ((HU1.out.trans HU2.out).trans (HUn.out.alloc _)).trans hz3.out⟩
              · have Hx := hide hx
                clear hx
                go_wp2_with (go_at_call 163; refine (free_any _ c ((x, y), t) _ ((HV2.out.up (HU1.out.trans (HU2.out.trans HUn.out))).up ((Up.refl _).alloc _)) hm HL2.out HD.out HCn.out).mono ?_; rintro e w3 ⟨rfl, hz3⟩; rw [Hx.out]; replace hz3 := hide hz3)
                go_roundw
                case rel => exact ⟨n + 1, by go_num, by omega, (HUn.out.alloc _).trans hz3.out, by rw [HZ.out, HBn.out, Hx.out]; exact rfl⟩
                case measure => simp [intOf]; omega
            · have hn2 : n = M.length := by omega
              subst hn2
              rw [List.take_length] at HBn
              go_wp2
              go_roundw
              case rel => exact ⟨q + 1, by go_num, by omega, HU2.out.trans HUn.out, by rw [HY.out, HB.out, HFk.out, HBn.out]; exact rfl⟩
              case measure => simp [intOf]; omega
        · have hq2 : q = L.length := by omega
          subst hq2
          rw [List.take_length] at HB
          go_wp2
          go_roundw
          case rel => exact ⟨k + 1, by go_num, by omega, HU1.out.trans HU.out, by rw [HX.out, HA.out, HFr.out, HB.out]; exact rfl⟩
          case measure => simp [intOf]; omega
    · have hk2 : k = a.length := by omega
      subst hk2
      rw [List.take_length] at HA
      have HR : Hid (Vd.enters a c = false) := by rw [HT.out]; exact HA.out
      go_wp2
      go_ret
      exact ⟨ret_b HR.out.symm, HU.out⟩

/-- the sizes of a set that can be asked. -/
structure Sz (m : Mult) : Prop where
  len : m.length ≤ 1048576
  poly : ∀ l ∈ m, l.length ≤ 1048576
  ring : ∀ l ∈ m, ∀ r ∈ l, r.length ≤ 1048575
  flat : ∀ l ∈ m, l.flatten.length ≤ 1048575
  cd : ∀ l ∈ m, Vd.CdL l
def ovG (m : Mult) (j i : Nat) : Bool := Vd.boundsX (Vd.pAt m i) (Vd.pAt m j) || Vd.enters (Vd.pAt m i) (Vd.pAt m j) || Vd.enters (Vd.pAt m j) (Vd.pAt m i)
def ovF (m : Mult) (j : Nat) : Bool := Vd.anyI j (ovG m j)
theorem overlap_F (m : Mult) : Vd.overlap m = Vd.anyI m.length (ovF m) := rfl
theorem pAt_some {m : Mult} {i : Nat} {l : Poly} (h : m[i]? = some l) : Vd.pAt m i = l := by unfold Vd.pAt; rw [List.getD_eq_getElem?_getD, h]; rfl
set_option maxHeartbeats 8000000 in
theorem overlap_any (v : Value) (m : Mult) (w : World) (hv : Rd3 w v m) (hz : Sz m) :
    Calls Tryz.prog 90 #[v] w fun e w' => e = .returned (.bool (Vd.overlap m)) ∧ Up w w' := by
  obtain ⟨ao, cap, rfl, hM⟩ := hv
  have HM := hide hM
  have HZ := hide hz
  have HS := hide (overlap_F m)
  have hl := hz.len
  clear hM hz
  go_enter Tryz.func90, Tryz.ntmps90
  go_wp2
  go_loopw [8] (fun i wr => ∃ k : Nat, i = .int .i64 k ∧ k ≤ m.length ∧ Hid (Up w wr) ∧ Hid (Vd.anyI k (ovF m) = false)) (fun i _ => m.length - (intOf i).toNat)
  case atStart => exact ⟨0, rfl, Nat.zero_le _, Up.refl _, rfl⟩
  case round =>
    obtain ⟨k, rfl, hk, HU, HA⟩ := hrel
    by_cases hlt : k < m.length
    · obtain ⟨r, hr⟩ := Pl.some_of_lt hlt
      obtain ⟨b, z, rfl, cu, hzr⟩ := HM.out k r hr
      obtain ⟨za, zc, rfl, -⟩ := id hzr
      have Hz := hide hzr
      have cu2 := HU.out.cell cu
      have Hr := hide hr
      have Hrm := hide (Pl.mem_of_some hr)
      clear hr cu hzr
      go_wp2
      clear cu2
      go_loopw [5] (fun i wr => ∃ q : Nat, i = .int .i64 q ∧ q ≤ k ∧ Hid (Up w wr) ∧ Hid (Vd.anyI q (ovG m k) = false)) (fun i _ => k - (intOf i).toNat)
      case atStart => exact ⟨0, rfl, Nat.zero_le _, HU, rfl⟩
      case round =>
        clear HU
        obtain ⟨q, rfl, hq, HU, HB⟩ := hrel
        by_cases hlq : q < k
        · obtain ⟨o, ho⟩ := Pl.some_of_lt (show q < m.length by omega)
          obtain ⟨b', z', e', cu, hzo⟩ := HM.out q o ho
          cases e'
          have Hz2 := hide (hzo.up HU.out)
          have HzU := hide (Hz.out.up HU.out)
          have cu2 := HU.out.cell cu
          have Hom := hide (Pl.mem_of_some ho)
          have HG : Hid (ovG m k q = (Vd.boundsX o r || Vd.enters o r || Vd.enters r o)) := by unfold ovG; rw [pAt_some ho, pAt_some Hr.out]; exact rfl
          have i1 : (q : Int) < (m.length : Int) := by omega
          have fin : Hid (ovG m k q = true → Vd.overlap m = true) := by
            intro h
            rw [HS.out]
            exact Vd.anyI_true (i := k) hlt (Vd.anyI_true (f := ovG m k) (i := q) hlq h)
          have R1 := hide (fun l (h : l ∈ m) r (hr : r ∈ l) => (show r.length ≤ 1048576 by have := HZ.out.ring l h r hr; omega))
          clear ho cu hzo
          go_wp2_with fail
          refine (bounds_any _ _ o r _ Hz2.out HzU.out (HZ.out.poly _ Hom.out) (R1.out _ Hom.out) (HZ.out.poly _ Hrm.out) (R1.out _ Hrm.out) (HZ.out.cd _ Hom.out) (HZ.out.cd _ Hrm.out)).mono ?_
          rintro e w2 ⟨rfl, hz2⟩
          have HU2 := hide (HU.out.trans hz2)
          have cu3 := hz2.cell cu2
          have Y2 := hide (Hz2.out.up hz2)
          have X2 := hide (HzU.out.up hz2)
          clear hz2 cu2
          cases hx : Vd.boundsX o r
          · rw [hx] at HG
            clear hx
            go_wp2_with fail
            refine (enters_any _ _ o r _ Y2.out X2.out (HZ.out.poly _ Hom.out) (R1.out _ Hom.out) (HZ.out.poly _ Hrm.out) (R1.out _ Hrm.out) (HZ.out.flat _ Hrm.out) (HZ.out.cd _ Hom.out) (HZ.out.cd _ Hrm.out)).mono ?_
            rintro e w3 ⟨rfl, hz3⟩
            have HU3 := hide (HU2.out.trans hz3)
            have cu4 := hz3.cell cu3
            have Y3 := hide (Y2.out.up hz3)
            have X3 := hide (X2.out.up hz3)
            clear hz3 cu3
            cases hx : Vd.enters o r
            · rw [hx] at HG
              clear hx
              go_wp2_with fail
              refine (enters_any _ _ r o _ X3.out Y3.out (HZ.out.poly _ Hrm.out) (R1.out _ Hrm.out) (HZ.out.poly _ Hom.out) (R1.out _ Hom.out) (HZ.out.flat _ Hom.out) (HZ.out.cd _ Hrm.out) (HZ.out.cd _ Hom.out)).mono ?_
              rintro e w4 ⟨rfl, hz4⟩
              have HU4 := hide (HU3.out.trans hz4)
              clear hz4 cu4
              cases hx : Vd.enters r o
              · rw [hx] at HG
                have HGf : Hid (ovG m k q = false) := HG.out
                clear hx
                go_wp2
                go_roundw
                case rel => exact ⟨q + 1, by go_num, by omega, HU4, anyI_step HB.out HGf.out⟩
                case measure => simp [intOf]; omega
              · rw [hx] at HG
                have HR := hide (fin.out HG.out)
                clear hx
                go_wp2
                go_ret
                exact ⟨ret_b HR.out.symm, HU4.out⟩
            · rw [hx] at HG
              have HR := hide (fin.out (by rw [HG.out]; rfl))
              clear hx
              go_wp2
              go_ret
              exact ⟨ret_b HR.out.symm, HU3.out⟩
          · rw [hx] at HG
            have HR := hide (fin.out (by rw [HG.out]; rfl))
            clear hx
            go_wp2
            go_ret
            exact ⟨ret_b HR.out.symm, HU2.out⟩
        · have hq2 : q = k := by omega
          subst hq2
          go_wp2
          go_roundw
          case rel => exact ⟨q + 1, by go_num, by omega, HU, anyI_step HA.out HB.out⟩
          case measure => simp [intOf]; omega
    · have hk2 : k = m.length := by omega
      subst hk2
      have HR : Hid (Vd.overlap m = false) := by rw [HS.out]; exact HA.out
      go_wp2
      go_ret
      exact ⟨ret_b HR.out.symm, HU.out⟩
end Go.Proofs.YtcclepohmhdpbaaGreatDoor
