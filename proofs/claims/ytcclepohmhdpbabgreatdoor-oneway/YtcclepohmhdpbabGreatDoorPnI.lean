import Derived.Test.YtcclepohmhdpbabGreatDoorPnH
namespace Go.Proofs.YtcclepohmhdpbabGreatDoor
set_option linter.all false
open Go.RowKit Go.Deep
theorem und_spots : Tryz.prog.underlying 99 = some (.slice 65) := by kernel_rfl
theorem info_spot : (Tryz.prog.info? 65).map (fun i => (i.zero, i.size, i.bytes)) = some (some (.agg #[.int .i64 0, .int .i64 0, .int .i64 0]), 3, 24) := by kernel_rfl
theorem el_spots : Elem Tryz.prog 99 65 (.agg #[.int .i64 0, .int .i64 0, .int .i64 0]) 3 24 := ⟨und_spots, info_spot, rfl, by omega, by omega⟩
structure MD (w wr : World) (A : Nat) (s : Vd.Seg) (f : Pnt) : Prop where
 up : Up w wr
 a : w.heap.size ≤ A
 s0 : VRow wr A 98 [.int .i64 s.1.1, .int .i64 s.1.2, .int .i64 s.2.1, .int .i64 s.2.2]
 f0 : VRow wr (A + 1) 48 [.int .i64 f.1, .int .i64 f.2]
theorem MD.keep {w wr w2 : World} {A : Nat} {s : Vd.Seg} {f : Pnt} (h : MD w wr A s f) (k : Up wr w2) : MD w w2 A s f :=
 ⟨h.up.trans k, h.a, h.s0.up k, h.f0.up k⟩
theorem MD.set {w wr : World} {A : Nat} {s : Vd.Seg} {f : Pnt} (h : MD w wr A s f) (x y : Int) : MD w ((wr.setCell ⟨A + 1, 0, none⟩ (.int .i64 x)).setCell ⟨A + 1, 1, none⟩ (.int .i64 y)) A s (x, y) :=
 ⟨(h.up.setCell (by have := h.a; show w.heap.size ≤ A + 1; omega) _).setCell (by have := h.a; show w.heap.size ≤ A + 1; omega) _, h.a, (h.s0.setOther (by show A ≠ A + 1; omega) _).setOther (by show A ≠ A + 1; omega) _, row_set2 h.f0 _ _⟩
theorem MD.grown {w wr w2 : World} {A : Nat} {s : Vd.Seg} {f : Pnt} (h : MD w wr A s f) {v : Value} {n : Nat} {xs : List Value} (ho : wr.ownsRow w.heap.size 65 3 v n xs) (hg : wr.grownBy w2 v.ownBlock) : MD w w2 A s f :=
 ⟨Fr.up (S := fun _ => False) ((Fr.of_up h.up).grown hg fun x hx => .inr (own_lt ho hx).1) (fun _ _ h => h), h.a, h.s0.grown hg (own_row_ne ho h.s0 (by decide)), h.f0.grown hg (own_row_ne ho h.f0 (by decide))⟩
theorem midsF_step1 {s : Vd.Seg} {f : Pnt} {rings : Poly} (h : f ≠ s.2) {n : Nat} (hn : Vd.ahead s f rings ≤ n) :
  ∃ n', n = n' + 1 ∧ Vd.midsF n s f rings = Vd.midOf f (Vd.nextCut s f rings) :: Vd.midsF n' s (Vd.nextCut s f rings) rings ∧ Vd.ahead s (Vd.nextCut s f rings) rings ≤ n' := by
 have := Vd.ahead_step (rings := rings) h
 cases n with
 | zero => omega
 | succ n => exact ⟨n, rfl, by rw [Vd.midsF, if_neg h], by omega⟩
set_option maxHeartbeats 8000000 in
theorem middles_any (s : Vd.Seg) (v : Value) (rings : Poly) (w : World) (hs : Vd.CdS s) (hv : Rd2 w v rings) (hl : rings.length ≤ 1048576) (hl2 : ∀ r ∈ rings, r.length ≤ 1048576) (hf : rings.flatten.length ≤ 1048576) (hc : Vd.CdL rings) :
  Calls Tryz.prog 70 #[segV s, v] w fun e w' => ∃ u, e = .returned u ∧ Up w w' ∧ w'.ownsRow w.heap.size 65 3 u (Vd.mids s rings).length (flatG spotC (Vd.mids s rings)) := by
 have HS := hide hs
 have HC := hide hc
 have HL := hide hl2
 have HV := hide hv
 have HM : Hid (Vd.mids s rings = Vd.midsF (rings.flatten.length + 1) (Vd.fwd s.1 s.2) (Vd.fwd s.1 s.2).1 rings) := rfl
 have HW := hide (Vd.fwd_cd hs)
 have HA := hide (Vd.ahead_le (Vd.fwd s.1 s.2) (Vd.fwd s.1 s.2).1 rings)
 have HLen := hide (Vd.mids_len s rings)
 generalize hMs : Vd.mids s rings = Ms at *
 have HMs := hide hMs
 obtain ⟨⟨ax, ay⟩, ⟨bx, bY⟩⟩ := s
 clear hs hc hl2 hv hMs
 obtain ⟨ao, cap, rfl, -⟩ := HV.out
 simp only [segV]
 go_enter Tryz.func70, Tryz.ntmps70
 go_wp2_with fail
 refine (forward_any ((ax, ay), (bx, bY)) _).mono ?_
 rintro e w1 ⟨rfl, u1⟩
 generalize hfw : Vd.fwd ((ax, ay), bx, bY).1 ((ax, ay), bx, bY).2 = fw at *
 clear hfw
 obtain ⟨⟨cx, cy⟩, ⟨dx, dy⟩⟩ := fw
 have HU1 : Hid (Up w w1) := ((Up.refl _).alloc _).trans u1
 clear u1
 simp only [segV]
 have HD : Hid (MD w ((w1.alloc (.cells #[.int .i64 cx, .int .i64 cy, .int .i64 dx, .int .i64 dy] 98)).alloc (.cells #[.int .i64 cx, .int .i64 cy] 48)) w1.heap.size ((cx, cy), (dx, dy)) (cx, cy)) := by
  refine ⟨(HU1.out.alloc _).alloc _, HU1.out.size, ?_, ?_⟩
  ·exact (new_row (vs := [_, _, _, _]) rfl).alloc _
  ·have := (new_row (w := w1.alloc (.cells #[.int .i64 cx, .int .i64 cy, .int .i64 dx, .int .i64 dy] 98)) (o := .cells #[.int .i64 cx, .int .i64 cy] 48) (vs := [_, _]) rfl)
   simpa using this
 go_wp2_with fail
 go_loopg [5] (rings.flatten.length + 1) (fun n mv wr => ∃ (f : Pnt) (u : Value) (ms : List Vd.Spot), u = mv ∧ Hid (MD w wr w1.heap.size ((cx, cy), (dx, dy)) f) ∧ Hid (wr.ownsRow w.heap.size 65 3 u ms.length (flatG spotC ms)) ∧ Hid (Ms = ms ++ Vd.midsF n ((cx, cy), (dx, dy)) f rings) ∧ Hid (Vd.ahead ((cx, cy), (dx, dy)) f rings ≤ n) ∧ Hid (Vd.Cd f) ∧ Hid (ms.length + n ≤ rings.flatten.length + 1))
 case atStart => exact ⟨(cx, cy), _, [], rfl, HD, World.ownsRow_nil _ _ _ _, HM.out, HA.out, HW.out.1, by simp [Hid]⟩
 case round =>
  obtain ⟨⟨fx, fy⟩, u, ms, rfl, HD2, HO, HE, HB, HF, HN⟩ := hrel
  clear HD
  have s0 := HD2.out.s0.cell (i := 0) rfl
  have s1 := HD2.out.s0.cell (i := 1) rfl
  have s2 := HD2.out.s0.cell (i := 2) rfl
  have s3 := HD2.out.s0.cell (i := 3) rfl
  have f0 := HD2.out.f0.cell (i := 0) rfl
  have f1 := HD2.out.f0.cell (i := 1) rfl
  simp only at s0 s1 s2 s3 f0 f1
  by_cases he : (fx, fy) = (dx, dy)
  ·cases he
   have HZ := hide (Vd.midsF_end (s := ((cx, cy), (dx, dy))) (f := (dx, dy)) (rings := rings) rfl gk)
   go_wp2
   go_ret
   refine ⟨_, rfl, HD2.out.up, ?_⟩
   have := HE.out
   rw [HZ.out, List.append_nil] at this
   rw [this]; exact HO.out
  ·have HX := hide (midsF_step1 (s := ((cx, cy), (dx, dy))) he HB.out)
   have HNC := hide (Vd.nextCut_cd (s := ((cx, cy), (dx, dy))) (f := (fx, fy)) (rings := rings) HW.out HC.out)
   rcases (show fx ≠ dx ∨ (fx = dx ∧ fy ≠ dy) from by by_cases c : fx = dx; exact .inr ⟨c, fun e => he (by rw [c, e])⟩; exact .inl c) with hd | ⟨rfl, hd⟩
   all_goals
    have hd' := beq_eq_false_iff_ne.2 hd
    clear he hd
    go_wp2_with fail
    refine (nextCut_any ((cx, cy), (_, dy)) (fx, fy) _ rings _ HW.out (HV.out.up HD2.out.up) hl HL.out HC.out).mono ?_
    rintro e w2 ⟨rfl, u2⟩
    generalize hT : Vd.nextCut ((cx, cy), (_, dy)) (fx, fy) rings = T at *
    clear hT
    obtain ⟨tx, ty⟩ := T
    simp only [ptV]
    have HD3 := hide ((HD2.out.keep u2).keep ((Up.refl w2).alloc (.cells #[.int .i64 tx, .int .i64 ty] 48)))
    have HO3 := hide (own_up HO.out (u2.alloc (.cells #[.int .i64 tx, .int .i64 ty] 48)))
    have RT := hide (new_row (w := w2) (o := .cells #[.int .i64 tx, .int .i64 ty] 48) (vs := [.int .i64 tx, .int .i64 ty]) rfl)
    have g0 := HD3.out.f0.cell (i := 0) rfl
    have g1 := HD3.out.f0.cell (i := 1) rfl
    simp only at g0 g1
    clear u2 s0 s1 s2 s3 f0 f1
    go_wp2_with fail
    refine (middle_any (fx, fy) (tx, ty) HF.out HNC.out _).mono ?_
    rintro e w3 ⟨rfl, u3⟩
    have HD4 := hide (HD3.out.keep u3)
    have HO4 := hide (own_up HO3.out u3)
    have RT4 := hide (RT.out.up u3)
    clear u3 g0 g1 HD3 HO3 RT
    obtain ⟨n', HX0, HX1, HX2⟩ := HX.out
    have HX0 := hide HX0
    have HX1 := hide HX1
    have HX2 := hide HX2
    have HOA := hide (HO4.out.alloc (.cells #[.int .i64 (fx + tx), .int .i64 (fy + ty), .int .i64 2] 65))
    have HDA := hide (HD4.out.keep ((Up.refl w3).alloc (.cells #[.int .i64 (fx + tx), .int .i64 (fy + ty), .int .i64 2] 65)))
    have RTA := hide (RT4.out.alloc (.cells #[.int .i64 (fx + tx), .int .i64 (fy + ty), .int .i64 2] 65))
    have hb : Hid (ms.length ≤ 1073741824) := by have := HN.out; show _ ≤ _; omega
    have hsz := hide HDA.out.up.size
    clear hd'
    simp only [spotV, Vd.midOf]
    go_wp2_with (at_builtin; refine wpList_app el_spots rfl (.tmp 21) (.tmp 25) rfl w.heap.size _ _ _ (by rfl) HOA.out w3.heap.size [.int .i64 (fx + tx), .int .i64 (fy + ty), .int .i64 2] (by rfl) rfl (heap_alloc_new w3 _) (by intro x hx; simp at hx; rcases hx with rfl | rfl | rfl <;> rfl) hb.out hsz.out ?_; intro g cap w5 hown5 hg5 hat5 hlt5; have HD5 := hide (HDA.out.grown HOA.out hg5); have HO5 := hide hown5; have RT5 := RTA.out.grown hg5 (own_row_ne HOA.out RTA.out (by decide)); have t0 := RT5.cell (i := 0) rfl; have t1 := RT5.cell (i := 1) rfl; have k0 := HD5.out.f0.cell (i := 0) rfl; have k1 := HD5.out.f0.cell (i := 1) rfl; have kf := fun i => HD5.out.f0.frozen i; clear hown5 hg5 hat5 hlt5 RT5)
    go_roundg n'
    case rel =>
     refine ⟨(tx, ty), _, ms ++ [((fx + tx, fy + ty), 2)], rfl, HD5.out.set tx ty, ?_, ?_, HX2.out, HNC.out, ?_⟩
     ·rw [flatG_append, List.length_append]
      exact own_set (own_set HO5.out (own_row_ne HO5.out HD5.out.f0 (by decide)) _) (own_row_ne HO5.out HD5.out.f0 (by decide)) _
     ·rw [HE.out, HX1.out, List.append_assoc]; exact rfl
     ·have := HN.out; have := HX0.out; simp only [Hid, List.length_append, List.length_singleton]; omega
    case measure => have := HX0.out; omega
end Go.Proofs.YtcclepohmhdpbabGreatDoor
