import Derived.Test.YtcclepohmhdpbaaGreatDoorPnF
/- THE WALKS: package plane: nextCut. -/
namespace Go.Proofs.YtcclepohmhdpbaaGreatDoor
set_option linter.all false
open Go.RowKit Go.Deep

theorem before_true {p q : Pnt} (h : Vd.bef p q) (w : World) : Calls Tryz.prog 236 #[ptV p, ptV q] w fun e w' => e = .returned (.bool true) ∧ Up w w' := by
  have := before_any p q w; rwa [decide_eq_true h] at this
theorem before_false {p q : Pnt} (h : ¬ Vd.bef p q) (w : World) : Calls Tryz.prog 236 #[ptV p, ptV q] w fun e w' => e = .returned (.bool false) ∧ Up w w' := by
  have := before_any p q w; rwa [decide_eq_false h] at this
theorem has_is {s : Vd.Seg} {p : Vd.Spot} {b : Bool} (h : Vd.hasB s p = b) (hs : Vd.CdS s) (hp : Vd.Sp p) (w : World) : Calls Tryz.prog 209 #[segV s, spotV p] w fun e w' => e = .returned (.bool b) ∧ Up w w' := by
  have := has_any s p hs hp w; rwa [h] at this

/-- what nextCut holds. -/
structure NC (w wr : World) (s : Vd.Seg) (f tu : Pnt) : Prop where
  up : Up w wr
  s0 : VRow wr w.heap.size 191 [.int .i64 s.1.1, .int .i64 s.1.2, .int .i64 s.2.1, .int .i64 s.2.2]
  f0 : VRow wr (w.heap.size + 1) 32 [.int .i64 f.1, .int .i64 f.2]
  r0 : VRow wr (w.heap.size + 2) 32 [.int .i64 0, .int .i64 0]
  t0 : VRow wr (w.heap.size + 3) 32 [.int .i64 tu.1, .int .i64 tu.2]
theorem NC.keep {w wr w2 : World} {s : Vd.Seg} {f tu : Pnt} (h : NC w wr s f tu) (k : Up wr w2) : NC w w2 s f tu :=
  ⟨h.up.trans k, h.s0.up k, h.f0.up k, h.r0.up k, h.t0.up k⟩
theorem NC.set {w wr : World} {s : Vd.Seg} {f tu : Pnt} (h : NC w wr s f tu) (p : Pnt) : NC w ((wr.setCell ⟨w.heap.size + 3, 0, none⟩ (.int .i64 p.1)).setCell ⟨w.heap.size + 3, 1, none⟩ (.int .i64 p.2)) s f p :=
  ⟨(h.up.setCell (by show w.heap.size ≤ w.heap.size + 3; omega) _).setCell (by show w.heap.size ≤ w.heap.size + 3; omega) _, (h.s0.setOther (by show w.heap.size ≠ w.heap.size + 3; omega) _).setOther (by show w.heap.size ≠ w.heap.size + 3; omega) _,
    (h.f0.setOther (by show w.heap.size + 1 ≠ w.heap.size + 3; omega) _).setOther (by show w.heap.size + 1 ≠ w.heap.size + 3; omega) _, (h.r0.setOther (by show w.heap.size + 2 ≠ w.heap.size + 3; omega) _).setOther (by show w.heap.size + 2 ≠ w.heap.size + 3; omega) _, row_set2 h.t0 _ _⟩
theorem NC.start (w : World) (ax ay bx bY fx fy : Int) : NC w ((((w.alloc (.cells #[.int .i64 ax, .int .i64 ay, .int .i64 bx, .int .i64 bY] 191)).alloc (.cells #[.int .i64 fx, .int .i64 fy] 32)).alloc (.cells #[.int .i64 0, .int .i64 0] 32)).alloc (.cells #[.int .i64 bx, .int .i64 bY] 32)) ((ax, ay), (bx, bY)) (fx, fy) (bx, bY) := by
  refine ⟨((((Up.refl _).alloc _).alloc _).alloc _).alloc _, ?_, ?_, ?_, ?_⟩
  · exact (((new_row (vs := [_, _, _, _]) rfl).alloc _).alloc _).alloc _
  · have := ((new_row (w := w.alloc (.cells #[.int .i64 ax, .int .i64 ay, .int .i64 bx, .int .i64 bY] 191)) (o := .cells #[.int .i64 fx, .int .i64 fy] 32) (vs := [_, _]) rfl).alloc (.cells #[.int .i64 0, .int .i64 0] 32)).alloc (.cells #[.int .i64 bx, .int .i64 bY] 32)
    simpa using this
  · have := (new_row (w := (w.alloc (.cells #[.int .i64 ax, .int .i64 ay, .int .i64 bx, .int .i64 bY] 191)).alloc (.cells #[.int .i64 fx, .int .i64 fy] 32)) (o := .cells #[.int .i64 0, .int .i64 0] 32) (vs := [_, _]) rfl).alloc (.cells #[.int .i64 bx, .int .i64 bY] 32)
    simpa using this
  · have := (new_row (w := ((w.alloc (.cells #[.int .i64 ax, .int .i64 ay, .int .i64 bx, .int .i64 bY] 191)).alloc (.cells #[.int .i64 fx, .int .i64 fy] 32)).alloc (.cells #[.int .i64 0, .int .i64 0] 32)) (o := .cells #[.int .i64 bx, .int .i64 bY] 32) (vs := [_, _]) rfl)
    simpa using this
theorem cutF_pos {s : Vd.Seg} {f tu p : Pnt} (h1 : Vd.bef f p) (h2 : Vd.bef p tu) (h3 : Vd.hasB s (Vd.at1 p) = true) : Vd.cutF s f tu p = p := if_pos ⟨h1, h2, of_decide_eq_true h3⟩
theorem cutF_neg {s : Vd.Seg} {f tu p : Pnt} (h : ¬ (Vd.bef f p ∧ Vd.bef p tu ∧ Vd.hasB s (Vd.at1 p) = true)) : Vd.cutF s f tu p = tu := if_neg fun k => h ⟨k.1, k.2.1, decide_eq_true k.2.2⟩
theorem fold_snoc {s : Vd.Seg} {f t0 : Pnt} {l : List Pnt} {p : Pnt} : (l ++ [p]).foldl (Vd.cutF s f) t0 = Vd.cutF s f (l.foldl (Vd.cutF s f) t0) p := by rw [List.foldl_append]; rfl
theorem flat_take {rings : Poly} {k : Nat} {r : Ring} (h : rings[k]? = some r) : (rings.take (k + 1)).flatten = (rings.take k).flatten ++ r := by rw [Pl.take_one h, List.flatten_append]; simp

set_option maxHeartbeats 8000000 in
theorem nextCut_any (s : Vd.Seg) (f : Pnt) (v : Value) (rings : Poly) (w : World) (hs : Vd.CdS s) (hv : Rd2 w v rings) (hl : rings.length ≤ 1048576) (hl2 : ∀ r ∈ rings, r.length ≤ 1048576) (hc : Vd.CdL rings) :
    Calls Tryz.prog 201 #[segV s, ptV f, v] w fun e w' => e = .returned (ptV (Vd.nextCut s f rings)) ∧ Up w w' := by
  obtain ⟨⟨ax, ay⟩, ⟨bx, bY⟩⟩ := s
  obtain ⟨fx, fy⟩ := f
  have HS := hide hs
  have HC := hide hc
  have HL := hide hl2
  obtain ⟨ao, cap, rfl, hm⟩ := hv
  have HM := hide hm
  have HN := hide (NC.start w ax ay bx bY fx fy)
  clear hs hc hl2 hm
  simp only [segV, ptV]
  go_enter Tryz.func201, Tryz.ntmps201
  go_wp2_with fail
  go_loopw [16] (fun i wr => ∃ (k : Nat) (tu : Pnt), i = .int .i64 k ∧ k ≤ rings.length ∧ Hid (NC w wr ((ax, ay), (bx, bY)) (fx, fy) tu) ∧ Hid (tu = (rings.take k).flatten.foldl (Vd.cutF ((ax, ay), (bx, bY)) (fx, fy)) (bx, bY))) (fun i _ => rings.length - (intOf i).toNat)
  case atStart => exact ⟨0, (bx, bY), rfl, Nat.zero_le _, HN, rfl⟩
  case round =>
    obtain ⟨k, tu, rfl, hk, HK, HT⟩ := hrel
    by_cases hlt : k < rings.length
    · obtain ⟨r, hr⟩ := Pl.some_of_lt hlt
      obtain ⟨b, u, rfl, cu, hu⟩ := HM.out k r hr
      obtain ⟨ao2, cap2, rfl, hp⟩ := hu
      have HP := hide hp
      have cu2 := HK.out.up.cell cu
      have hrl := HL.out r (Pl.mem_of_some hr)
      have HCR := hide (HC.out r (Pl.mem_of_some hr))
      have HF := hide (flat_take hr)
      clear hr cu hp
      go_wp2_with fail
      go_loopw [22] (fun i wr => ∃ (q : Nat) (tu : Pnt), i = .int .i64 q ∧ q ≤ r.length ∧ Hid (NC w wr ((ax, ay), (bx, bY)) (fx, fy) tu) ∧ Hid (tu = ((rings.take k).flatten ++ r.take q).foldl (Vd.cutF ((ax, ay), (bx, bY)) (fx, fy)) (bx, bY))) (fun i _ => r.length - (intOf i).toNat)
      case atStart => exact ⟨0, tu, rfl, Nat.zero_le _, HK, by rw [List.take_zero, List.append_nil]; exact HT⟩
      case round =>
        clear HK HT cu2
        obtain ⟨q, ⟨tx, ty⟩, rfl, hq, HK, HT⟩ := hrel
        by_cases hlq : q < r.length
        · obtain ⟨⟨px, py⟩, hxy⟩ := Pl.some_of_lt hlq
          obtain ⟨b2, rfl, cx, cy⟩ := HP.out q (px, py) hxy
          have cx' := HK.out.up.cell cx
          have cy' := HK.out.up.cell cy
          dsimp only at cx' cy'
          have HCP := hide (HCR.out _ (Pl.mem_of_some hxy))
          have HX : Hid ((((rings.take k).flatten ++ r.take (q + 1)).foldl (Vd.cutF ((ax, ay), (bx, bY)) (fx, fy)) (bx, bY)) = Vd.cutF ((ax, ay), (bx, bY)) (fx, fy) (tx, ty) (px, py)) := by
            rw [Pl.take_one hxy, ← List.append_assoc, fold_snoc, ← HT.out]; exact rfl
          clear hxy cx cy HT
          go_upto_region 8 with fail
          have HW := hide (HK.out.keep ((Up.refl wr).alloc (.cells #[.int .i64 px, .int .i64 py] 32)))
          have RP := hide (new_row (w := wr) (o := .cells #[.int .i64 px, .int .i64 py] 32) (vs := [.int .i64 px, .int .i64 py]) rfl)
          generalize wr.alloc (.cells #[.int .i64 px, .int .i64 py] 32) = W at *
          have s0 := HW.out.s0.gr (i := 0) rfl
          have s1 := HW.out.s0.gr (i := 1) rfl
          have s2 := HW.out.s0.gr (i := 2) rfl
          have s3 := HW.out.s0.gr (i := 3) rfl
          have f0 := HW.out.f0.gr (i := 0) rfl
          have f1 := HW.out.f0.gr (i := 1) rfl
          have t0 := HW.out.t0.gr (i := 0) rfl
          have t1 := HW.out.t0.gr (i := 1) rfl
          have p0 := RP.out.gr (i := 0) rfl
          have p1 := RP.out.gr (i := 1) rfl
          clear cx' cy'
          by_cases h1 : Vd.bef (fx, fy) (px, py)
          · by_cases h2 : Vd.bef (px, py) (tx, ty)
            · cases h3 : Vd.hasB ((ax, ay), (bx, bY)) (Vd.at1 (px, py))
              · skip
                have D1 := hide h1
                have D2 := hide h2
                have D3 := hide h3
                have HY := hide (HX.out.trans (cutF_neg (fun x => by rw [h3] at x; exact absurd x.2.2 (by simp))))
                clear h1 h2 h3
                refine wp_region_up (by kernel_rfl) (by kernel_rfl) ?_
                repeat (first | go_big_quiet_step ((first | (go_at_call_of 236 (Value.agg #[.int .i64 fx, .int .i64 fy]); exact Calls.up_of (before_true D1.out _)) | (go_at_call 236; exact Calls.up_of (before_true D2.out _)) | (go_at_call 199; exact Calls.up_of (at_any (px, py) _)) | (go_at_call 209; exact Calls.up_of (has_is D3.out HS.out (Vd.at1_sp HCP.out) _)))))
                refine wpQuiet_nil ?_
                rintro _ ⟨⟨w2, u2⟩, rfl⟩
                have HK2 := hide (HW.out.keep u2)
                clear u2 s0 s1 s2 s3 f0 f1 t0 t1 p0 p1
                go_wp2
                go_roundw
                case rel => exact ⟨q + 1, (tx, ty), by go_num, by omega, HK2, HY.out.symm⟩
                case measure => simp [intOf]; omega
              · skip
                have D1 := hide h1
                have D2 := hide h2
                have D3 := hide h3
                have HY := hide (HX.out.trans (cutF_pos h1 h2 h3))
                clear h1 h2 h3
                refine wp_region_up (by kernel_rfl) (by kernel_rfl) ?_
                repeat (first | go_big_quiet_step ((first | (go_at_call_of 236 (Value.agg #[.int .i64 fx, .int .i64 fy]); exact Calls.up_of (before_true D1.out _)) | (go_at_call 236; exact Calls.up_of (before_true D2.out _)) | (go_at_call 199; exact Calls.up_of (at_any (px, py) _)) | (go_at_call 209; exact Calls.up_of (has_is D3.out HS.out (Vd.at1_sp HCP.out) _)))))
                refine wpQuiet_nil ?_
                rintro _ ⟨⟨w2, u2⟩, rfl⟩
                have HK2 := hide (HW.out.keep u2)
                have RP2 := RP.out.up u2
                have q0 := RP2.cell (i := 0) rfl
                have q1 := RP2.cell (i := 1) rfl
                have r0 := HK2.out.t0.cell (i := 0) rfl
                have r1 := HK2.out.t0.cell (i := 1) rfl
                have rf := fun i => HK2.out.t0.frozen i
                clear RP2
                clear u2 s0 s1 s2 s3 f0 f1 t0 t1 p0 p1
                go_wp2
                go_roundw
                case rel => exact ⟨q + 1, (px, py), by go_num, by omega, HK2.out.set (px, py), HY.out.symm⟩
                case measure => simp [intOf]; omega
            · skip
              have D1 := hide h1
              have D2 := hide h2
              have HY := hide (HX.out.trans (cutF_neg (fun x => h2 x.2.1)))
              clear h1 h2
              refine wp_region_up (by kernel_rfl) (by kernel_rfl) ?_
              repeat (first | go_big_quiet_step ((first | (go_at_call_of 236 (Value.agg #[.int .i64 fx, .int .i64 fy]); exact Calls.up_of (before_true D1.out _)) | (go_at_call 236; exact Calls.up_of (before_false D2.out _)))))
              refine wpQuiet_nil ?_
              rintro _ ⟨⟨w2, u2⟩, rfl⟩
              have HK2 := hide (HW.out.keep u2)
              clear u2 s0 s1 s2 s3 f0 f1 t0 t1 p0 p1
              go_wp2
              go_roundw
              case rel => exact ⟨q + 1, (tx, ty), by go_num, by omega, HK2, HY.out.symm⟩
              case measure => simp [intOf]; omega
          · skip
            have D1 := hide h1
            have HY := hide (HX.out.trans (cutF_neg (fun x => h1 x.1)))
            clear h1
            refine wp_region_up (by kernel_rfl) (by kernel_rfl) ?_
            repeat (first | go_big_quiet_step ((first | (go_at_call_of 236 (Value.agg #[.int .i64 fx, .int .i64 fy]); exact Calls.up_of (before_false D1.out _)))))
            refine wpQuiet_nil ?_
            rintro _ ⟨⟨w2, u2⟩, rfl⟩
            have HK2 := hide (HW.out.keep u2)
            clear u2 s0 s1 s2 s3 f0 f1 t0 t1 p0 p1
            go_wp2
            go_roundw
            case rel => exact ⟨q + 1, (tx, ty), by go_num, by omega, HK2, HY.out.symm⟩
            case measure => simp [intOf]; omega
        · have hq2 : q = r.length := by omega
          subst hq2
          rw [List.take_length] at HT
          go_wp2
          go_roundw
          case rel => exact ⟨k + 1, (tx, ty), by go_num, by omega, HK, by rw [HF.out]; exact HT⟩
          case measure => simp [intOf]; omega
    · have hk2 : k = rings.length := by omega
      subst hk2
      rw [List.take_length] at HT
      obtain ⟨tx, ty⟩ := tu
      have r0 := HK.out.t0.cell (i := 0) rfl
      have r1 := HK.out.t0.cell (i := 1) rfl
      have q0 := HK.out.r0.cell (i := 0) rfl
      have q1 := HK.out.r0.cell (i := 1) rfl
      have qf := fun i => HK.out.r0.frozen i
      go_wp2
      refine ret_cell Tryz.results201 rfl rfl (load_pnt (row_set2 HK.out.r0 _ _)) ⟨?_, (HK.out.up.setCell (by show w.heap.size ≤ w.heap.size + 2; omega) _).setCell (by show w.heap.size ≤ w.heap.size + 2; omega) _⟩
      show Ending.returned (ptV (tx, ty)) = _
      rw [HT.out]
      rfl
end Go.Proofs.YtcclepohmhdpbaaGreatDoor

/- THE WALKS: package plane: Middles. -/
namespace Go.Proofs.YtcclepohmhdpbaaGreatDoor
set_option linter.all false
open Go.RowKit Go.Deep

theorem und_spots : Tryz.prog.underlying 192 = some (.slice 127) := by kernel_rfl
theorem info_spot : (Tryz.prog.info? 127).map (fun i => (i.zero, i.size, i.bytes)) = some (some (.agg #[.int .i64 0, .int .i64 0, .int .i64 0]), 3, 24) := by kernel_rfl
theorem el_spots : Elem Tryz.prog 192 127 (.agg #[.int .i64 0, .int .i64 0, .int .i64 0]) 3 24 := ⟨und_spots, info_spot, rfl, by omega, by omega⟩

/-- what Middles holds: the way, and whence. -/
structure MD (w wr : World) (A : Nat) (s : Vd.Seg) (f : Pnt) : Prop where
  up : Up w wr
  a : w.heap.size ≤ A
  s0 : VRow wr A 191 [.int .i64 s.1.1, .int .i64 s.1.2, .int .i64 s.2.1, .int .i64 s.2.2]
  f0 : VRow wr (A + 1) 32 [.int .i64 f.1, .int .i64 f.2]
theorem MD.keep {w wr w2 : World} {A : Nat} {s : Vd.Seg} {f : Pnt} (h : MD w wr A s f) (k : Up wr w2) : MD w w2 A s f :=
  ⟨h.up.trans k, h.a, h.s0.up k, h.f0.up k⟩
theorem MD.set {w wr : World} {A : Nat} {s : Vd.Seg} {f : Pnt} (h : MD w wr A s f) (x y : Int) : MD w ((wr.setCell ⟨A + 1, 0, none⟩ (.int .i64 x)).setCell ⟨A + 1, 1, none⟩ (.int .i64 y)) A s (x, y) :=
  ⟨(h.up.setCell (by have := h.a; show w.heap.size ≤ A + 1; omega) _).setCell (by have := h.a; show w.heap.size ≤ A + 1; omega) _, h.a, (h.s0.setOther (by show A ≠ A + 1; omega) _).setOther (by show A ≠ A + 1; omega) _, row_set2 h.f0 _ _⟩
theorem MD.grown {w wr w2 : World} {A : Nat} {s : Vd.Seg} {f : Pnt} (h : MD w wr A s f) {v : Value} {n : Nat} {xs : List Value} (ho : wr.ownsRow w.heap.size 127 3 v n xs) (hg : wr.grownBy w2 v.ownBlock) : MD w w2 A s f :=
  ⟨Fr.up (S := fun _ => False) ((Fr.of_up h.up).grown hg fun x hx => .inr (own_lt ho hx).1) (fun _ _ h => h), h.a, h.s0.grown hg (own_row_ne ho h.s0 (by decide)), h.f0.grown hg (own_row_ne ho h.f0 (by decide))⟩

theorem midsF_step1 {s : Vd.Seg} {f : Pnt} {rings : Poly} (h : f ≠ s.2) {n : Nat} (hn : Vd.ahead s f rings ≤ n) :
    ∃ n', n = n' + 1 ∧ Vd.midsF n s f rings = Vd.midOf f (Vd.nextCut s f rings) :: Vd.midsF n' s (Vd.nextCut s f rings) rings ∧ Vd.ahead s (Vd.nextCut s f rings) rings ≤ n' := by
  have := Vd.ahead_step (rings := rings) h
  cases n with
  | zero => omega
  | succ n => exact ⟨n, rfl, by rw [Vd.midsF, if_neg h], by omega⟩
set_option maxHeartbeats 8000000 in
theorem middles_any (s : Vd.Seg) (v : Value) (rings : Poly) (w : World) (hs : Vd.CdS s) (hv : Rd2 w v rings) (hl : rings.length ≤ 1048576) (hl2 : ∀ r ∈ rings, r.length ≤ 1048576) (hf : rings.flatten.length ≤ 1048576) (hc : Vd.CdL rings) :
    Calls Tryz.prog 162 #[segV s, v] w fun e w' => ∃ u, e = .returned u ∧ Up w w' ∧ w'.ownsRow w.heap.size 127 3 u (Vd.mids s rings).length (flatG spotC (Vd.mids s rings)) := by
  have HS := hide hs
  have HC := hide hc
  have HL := hide hl2
  have HV := hide hv
  have HM : Hid (Vd.mids s rings = Vd.midsF (rings.flatten.length + 1) (Vd.fwd s.1 s.2) (Vd.fwd s.1 s.2).1 rings) := rfl
  have HW := hide (Vd.fwd_cd hs)
  have HA := hide (Vd.ahead_le (Vd.fwd s.1 s.2) (Vd.fwd s.1 s.2).1 rings)
  have HLen := hide (Vd.mids_len s rings)
  generalize hMs : Vd.mids s rings = Ms at *
  have HMs := hide hMs
  obtain ⟨⟨ax, ay⟩, ⟨bx, bY⟩⟩ := s
  clear hs hc hl2 hv hMs
  obtain ⟨ao, cap, rfl, -⟩ := HV.out
  simp only [segV]
  go_enter Tryz.func162, Tryz.ntmps162
  go_wp2_with fail
  refine (forward_any ((ax, ay), (bx, bY)) _).mono ?_
  rintro e w1 ⟨rfl, u1⟩
  generalize hfw : Vd.fwd ((ax, ay), bx, bY).1 ((ax, ay), bx, bY).2 = fw at *
  clear hfw
  obtain ⟨⟨cx, cy⟩, ⟨dx, dy⟩⟩ := fw
  have HU1 : Hid (Up w w1) := ((Up.refl _).alloc _).trans u1
  clear u1
  simp only [segV]
  have HD : Hid (MD w ((w1.alloc (.cells #[.int .i64 cx, .int .i64 cy, .int .i64 dx, .int .i64 dy] 191)).alloc (.cells #[.int .i64 cx, .int .i64 cy] 32)) w1.heap.size ((cx, cy), (dx, dy)) (cx, cy)) := by
    refine ⟨(HU1.out.alloc _).alloc _, HU1.out.size, ?_, ?_⟩
    · exact (new_row (vs := [_, _, _, _]) rfl).alloc _
    · have := (new_row (w := w1.alloc (.cells #[.int .i64 cx, .int .i64 cy, .int .i64 dx, .int .i64 dy] 191)) (o := .cells #[.int .i64 cx, .int .i64 cy] 32) (vs := [_, _]) rfl)
      simpa using this
  go_wp2_with fail
  go_loopg [5] (rings.flatten.length + 1) (fun n mv wr => ∃ (f : Pnt) (u : Value) (ms : List Vd.Spot), u = mv ∧ Hid (MD w wr w1.heap.size ((cx, cy), (dx, dy)) f) ∧ Hid (wr.ownsRow w.heap.size 127 3 u ms.length (flatG spotC ms)) ∧ Hid (Ms = ms ++ Vd.midsF n ((cx, cy), (dx, dy)) f rings) ∧ Hid (Vd.ahead ((cx, cy), (dx, dy)) f rings ≤ n) ∧ Hid (Vd.Cd f) ∧ Hid (ms.length + n ≤ rings.flatten.length + 1))
  case atStart => exact ⟨(cx, cy), _, [], rfl, HD, World.ownsRow_nil _ _ _ _, HM.out, HA.out, HW.out.1, by simp [Hid]⟩
  case round =>
    obtain ⟨⟨fx, fy⟩, u, ms, rfl, HD2, HO, HE, HB, HF, HN⟩ := hrel
    clear HD
    have s0 := HD2.out.s0.cell (i := 0) rfl
    have s1 := HD2.out.s0.cell (i := 1) rfl
    have s2 := HD2.out.s0.cell (i := 2) rfl
    have s3 := HD2.out.s0.cell (i := 3) rfl
    have f0 := HD2.out.f0.cell (i := 0) rfl
    have f1 := HD2.out.f0.cell (i := 1) rfl
    simp only at s0 s1 s2 s3 f0 f1
    by_cases he : (fx, fy) = (dx, dy)
    · cases he
      have HZ := hide (Vd.midsF_end (s := ((cx, cy), (dx, dy))) (f := (dx, dy)) (rings := rings) rfl gk)
      go_wp2
      go_ret
      refine ⟨_, rfl, HD2.out.up, ?_⟩
      have := HE.out
      rw [HZ.out, List.append_nil] at this
      rw [this]; exact HO.out
    · have HX := hide (midsF_step1 (s := ((cx, cy), (dx, dy))) he HB.out)
      have HNC := hide (Vd.nextCut_cd (s := ((cx, cy), (dx, dy))) (f := (fx, fy)) (rings := rings) HW.out HC.out)
      rcases (show fx ≠ dx ∨ (fx = dx ∧ fy ≠ dy) from by by_cases c : fx = dx; exact .inr ⟨c, fun e => he (by rw [c, e])⟩; exact .inl c) with hd | ⟨rfl, hd⟩
      all_goals
        have hd' := beq_eq_false_iff_ne.2 hd
        clear he hd
        go_wp2_with fail
        refine (nextCut_any ((cx, cy), (_, dy)) (fx, fy) _ rings _ HW.out (HV.out.up HD2.out.up) hl HL.out HC.out).mono ?_
        rintro e w2 ⟨rfl, u2⟩
        generalize hT : Vd.nextCut ((cx, cy), (_, dy)) (fx, fy) rings = T at *
        clear hT
        obtain ⟨tx, ty⟩ := T
        simp only [ptV]
        have HD3 := hide ((HD2.out.keep u2).keep ((Up.refl w2).alloc (.cells #[.int .i64 tx, .int .i64 ty] 32)))
        have HO3 := hide (own_up HO.out (u2.alloc (.cells #[.int .i64 tx, .int .i64 ty] 32)))
        have RT := hide (new_row (w := w2) (o := .cells #[.int .i64 tx, .int .i64 ty] 32) (vs := [.int .i64 tx, .int .i64 ty]) rfl)
        have g0 := HD3.out.f0.cell (i := 0) rfl
        have g1 := HD3.out.f0.cell (i := 1) rfl
        simp only at g0 g1
        clear u2 s0 s1 s2 s3 f0 f1
        go_wp2_with fail
        refine (middle_any (fx, fy) (tx, ty) HF.out HNC.out _).mono ?_
        rintro e w3 ⟨rfl, u3⟩
        have HD4 := hide (HD3.out.keep u3)
        have HO4 := hide (own_up HO3.out u3)
        have RT4 := hide (RT.out.up u3)
        clear u3 g0 g1 HD3 HO3 RT
        obtain ⟨n', HX0, HX1, HX2⟩ := HX.out
        have HX0 := hide HX0
        have HX1 := hide HX1
        have HX2 := hide HX2
        have HOA := hide (HO4.out.alloc (.cells #[.int .i64 (fx + tx), .int .i64 (fy + ty), .int .i64 2] 127))
        have HDA := hide (HD4.out.keep ((Up.refl w3).alloc (.cells #[.int .i64 (fx + tx), .int .i64 (fy + ty), .int .i64 2] 127)))
        have RTA := hide (RT4.out.alloc (.cells #[.int .i64 (fx + tx), .int .i64 (fy + ty), .int .i64 2] 127))
        have hb : Hid (ms.length ≤ 1073741824) := by have := HN.out; show _ ≤ _; omega
        have hsz := hide HDA.out.up.size
        clear hd'
        simp only [spotV, Vd.midOf]
        go_wp2_with (at_builtin; refine wpList_app el_spots rfl (.tmp 21) (.tmp 25) rfl w.heap.size _ _ _ (by rfl) HOA.out w3.heap.size [.int .i64 (fx + tx), .int .i64 (fy + ty), .int .i64 2] (by rfl) rfl (heap_alloc_new w3 _) (by intro x hx; simp at hx; rcases hx with rfl | rfl | rfl <;> rfl) hb.out hsz.out ?_; intro g cap w5 hown5 hg5 hat5 hlt5; have HD5 := hide (HDA.out.grown HOA.out hg5); have HO5 := hide hown5; have RT5 := RTA.out.grown hg5 (own_row_ne HOA.out RTA.out (by decide)); have t0 := RT5.cell (i := 0) rfl; have t1 := RT5.cell (i := 1) rfl; have k0 := HD5.out.f0.cell (i := 0) rfl; have k1 := HD5.out.f0.cell (i := 1) rfl; have kf := fun i => HD5.out.f0.frozen i; clear hown5 hg5 hat5 hlt5 RT5)
        go_roundg n'
        case rel =>
          refine ⟨(tx, ty), _, ms ++ [((fx + tx, fy + ty), 2)], rfl, HD5.out.set tx ty, ?_, ?_, HX2.out, HNC.out, ?_⟩
          · rw [flatG_append, List.length_append]
            exact own_set (own_set HO5.out (own_row_ne HO5.out HD5.out.f0 (by decide)) _) (own_row_ne HO5.out HD5.out.f0 (by decide)) _
          · rw [HE.out, HX1.out, List.append_assoc]; exact rfl
          · have := HN.out; have := HX0.out; simp only [Hid, List.length_append, List.length_singleton]; omega
        case measure => have := HX0.out; omega
end Go.Proofs.YtcclepohmhdpbaaGreatDoor
