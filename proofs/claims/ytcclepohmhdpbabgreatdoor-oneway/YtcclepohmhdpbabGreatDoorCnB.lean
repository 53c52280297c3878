import Derived.Test.YtcclepohmhdpbabGreatDoorPnH
import Derived.Test.YtcclepohmhdpbabGreatDoorClC
import Derived.BigRegion
import Derived.Deep.DeepCutAuto
namespace Go.Proofs.YtcclepohmhdpbabGreatDoor
set_option linter.all false
open Go.RowKit Go.Deep
namespace Vd
theorem cornersI_succ (r : Ring) (n : Nat) : cornersI r (n + 1) = cornersI r n ++ (if turns r n = true then [ptAt r n] else []) := by
 unfold cornersI
 rw [List.range_succ, List.filter_append, List.map_append]
 congr 1
 by_cases h : turns r n = true
 ·rw [if_pos h]; simp [h]
 ·rw [if_neg h]; simp [h]
theorem cornersI_one (r : Ring) : cornersI r 1 = [] := by
 rw [cornersI_succ]; simp [cornersI, turns]
theorem cornersI_len (r : Ring) (n : Nat) : (cornersI r n).length ≤ n := by
 unfold cornersI
 rw [List.length_map]
 have := List.length_filter_le (turns r) (List.range n)
 simpa using this
end Vd
theorem ptAt_some {r : Ring} {i : Nat} {p : Pnt} (h : r[i]? = some p) : Vd.ptAt r i = p := by unfold Vd.ptAt; rw [List.getD_eq_getElem?_getD, h]; rfl
theorem turns_at {r : Ring} {k : Nat} {p q n : Pnt} (hp : r[k]? = some p) (hq : r[k + 1]? = some q) (hn : Vd.nextI r (k + 1) = n) : Vd.turns r (k + 1) = decide (Vd.side (p, q) (Vd.at1 n) ≠ 0) := by
 unfold Vd.turns
 rw [show k + 1 - 1 = k from rfl, ptAt_some hp, ptAt_some hq, hn]
 simp
set_option maxRecDepth 8000 in
set_option maxHeartbeats 8000000 in
theorem corners_any (v : Value) (r : Ring) (w : World) (hv : Rd1 w v r) (hr : r.length ≤ 1048576) (hc : Vd.CdR r) :
  Calls Tryz.prog 88 #[v] w fun e w' => ∃ u, e = .returned u ∧ Up w w' ∧ w'.ownsRow w.heap.size 48 2 u (Vd.corners r).length (flat (Vd.corners r)) := by
 obtain ⟨ao, cap, rfl, hm⟩ := hv
 have HM := hide hm
 have HC := hide hc
 have HD : Hid (Vd.corners r = Vd.cornersI r r.length) := rfl
 have HS := hide (fun n => Vd.cornersI_succ r n)
 have H1 := hide (Vd.cornersI_one r)
 have HLn := hide (fun n => Vd.cornersI_len r n)
 clear hm hc
 go_enter Tryz.func88, Tryz.ntmps88
 go_wp2
 go_loopw [3, 4] (fun sv i wr => ∃ (k : Nat) (u : Value), i = .int .i64 ((k : Int) + 1) ∧ u = sv ∧ k ≤ r.length ∧ Hid (Up w wr) ∧ Hid (wr.ownsRow w.heap.size 48 2 u (Vd.cornersI r (k + 1)).length (flat (Vd.cornersI r (k + 1)))) ∧ Hid (k = 0 ∨ k + 1 ≤ r.length)) (fun _ i _ => r.length - (intOf i).toNat)
 case atStart => exact ⟨0, _, rfl, rfl, Nat.zero_le _, Up.refl _, by show World.ownsRow _ _ _ _ _ _ _; rw [H1.out]; exact World.ownsRow_nil _ _ _ _, .inl rfl⟩
 case round =>
  obtain ⟨k, u, rfl, rfl, hk, HU, HO, HK0⟩ := hrel
  by_cases hlt : k + 1 < r.length
  ·obtain ⟨⟨px, py⟩, hp⟩ := Pl.some_of_lt (show k < r.length by omega)
   obtain ⟨⟨qx, qy⟩, hq⟩ := Pl.some_of_lt hlt
   obtain ⟨⟨ox, oy⟩, ho⟩ := Pl.some_of_lt (show 1 < r.length by omega)
   obtain ⟨b, rfl, c0, c1⟩ := HM.out k _ hp
   obtain ⟨b', e', d0, d1⟩ := HM.out (k + 1) _ hq
   cases e'
   obtain ⟨b', e', o0, o1⟩ := HM.out 1 _ ho
   cases e'
   have Cp := hide (HC.out _ (Pl.mem_of_some hp))
   have Cq := hide (HC.out _ (Pl.mem_of_some hq))
   have i1 : (0 : Int) ≤ (k : Int) := by omega
   have i2 : (k : Int) < (r.length : Int) := by omega
   have i3 : (k : Int) + 1 < (r.length : Int) := by omega
   have i4 : IntKind.i64.wrap (k : Int) = (k : Int) := wrap_id (by omega) (by omega)
   have i5 : (0 : Int) ≤ (k : Int) + 1 := by omega
   have i6 : (1 : Int) < (r.length : Int) := by omega
   have i7 : IntKind.i64.wrap ((k : Int) + 1 + 1) = (k : Int) + 1 + 1 := wrap_id (by omega) (by omega)
   have i8 : IntKind.i64.wrap ((k : Int) + 1) = (k : Int) + 1 := wrap_id (by omega) (by omega)
   have C0 := hide (HU.out.cell c0)
   have C1 := hide (HU.out.cell c1)
   have D0 := hide (HU.out.cell d0)
   have D1 := hide (HU.out.cell d1)
   have e0 := HU.out.cell o0
   have e1 := HU.out.cell o1
   have hTs : Hid (w.heap.size ≤ wr.heap.size) := HU.out.size
   clear c0 c1 d0 d1 o0 o1
   obtain ⟨⟨nx, ny⟩, hn⟩ : ∃ n, Vd.nextI r (k + 1) = n := ⟨_, rfl⟩
   have HT := hide (turns_at hp hq hn)
   have HSk := hide (HS.out (k + 1))
   rw [HT.out, ptAt_some hq] at HSk
   have Cn : Hid (Vd.Cd (nx, ny)) := by
    rw [← hn]; unfold Vd.nextI
    split
    ·rename_i h; obtain ⟨x, hx⟩ := Pl.some_of_lt h; rw [ptAt_some hx]; exact HC.out _ (Pl.mem_of_some hx)
    ·rw [ptAt_some ho]; exact HC.out _ (Pl.mem_of_some ho)
   obtain ⟨T, hT⟩ : ∃ T, wr.heap.size = T := ⟨_, rfl⟩
   have RN0 := hide (new_row (w := wr) (o := .cells #[.int .i64 ox, .int .i64 oy] 48) (vs := [.int .i64 ox, .int .i64 oy]) rfl)
   have HUT : Hid (Up wr (wr.alloc (.cells #[.int .i64 ox, .int .i64 oy] 48))) := (Up.refl _).alloc _
   rw [hT] at RN0
   have hcase : (∃ x y, r[k + 2]? = some (x, y) ∧ (nx, ny) = (x, y) ∧ (k : Int) + 1 + 1 < (r.length : Int)) ∨ ((nx, ny) = (ox, oy) ∧ ¬ (k : Int) + 1 + 1 < (r.length : Int)) := by
    rw [← hn]; unfold Vd.nextI
    by_cases h : k + 1 + 1 < r.length
    ·obtain ⟨⟨x, y⟩, hx⟩ := Pl.some_of_lt h
     exact .inl ⟨x, y, hx, by rw [if_pos h, ptAt_some hx], by omega⟩
    ·exact .inr ⟨by rw [if_neg h, ptAt_some ho], by omega⟩
   have HX : Hid (∀ n, r[k + 2]? = some n → wr.cell? ⟨b, (k + 1 + 1) * 2, none⟩ = some (.int .i64 n.1) ∧ wr.cell? ⟨b, (k + 1 + 1) * 2 + 1, none⟩ = some (.int .i64 n.2)) := fun n hx => by
    obtain ⟨b', e', x0, x1⟩ := HM.out (k + 2) _ hx
    cases e'
    exact ⟨HU.out.cell x0, HU.out.cell x1⟩
   clear hp hq hn ho
   rcases hcase with ⟨x, y, hx, en, i9⟩ | ⟨en, i9⟩
   ·obtain ⟨rfl, rfl⟩ := Prod.mk.inj en
    obtain ⟨x0, x1⟩ := HX.out _ hx
    have y0 := HUT.out.cell x0
    have y1 := HUT.out.cell x1
    have tf := fun i => RN0.out.frozen i
    have t0 := RN0.out.cell (i := 0) rfl
    have t1 := RN0.out.cell (i := 1) rfl
    rw [← hT] at tf t0 t1
    try dsimp only at y0 y1
    clear hx x0 x1 en HX
    go_upto_region 8 with fail
    clear y0 y1 tf t0 t1 e0 e1 RN0 HUT i9
    have HUW : Hid (Up wr (wr.alloc (.cells #[.int .i64 nx, .int .i64 ny] 48))) := (Up.refl _).alloc _
    have RN := hide (new_row (w := wr) (o := .cells #[.int .i64 nx, .int .i64 ny] 48) (vs := [.int .i64 nx, .int .i64 ny]) rfl)
    have hTl : Hid (u.ownBlock ≠ some wr.heap.size) := fun e => by have := (own_lt HO.out e).2; omega
    rw [hT] at RN hTl
    generalize wr.alloc (.cells #[.int .i64 nx, .int .i64 ny] 48) = W at *
    have f0 := HUW.out.cell C0.out
    have f1 := HUW.out.cell C1.out
    have g0 := HUW.out.cell D0.out
    have g1 := HUW.out.cell D1.out
    have f0a := fun o => ((Up.refl W).alloc o).cell f0
    have f1a := fun o => ((Up.refl W).alloc o).cell f1
    have g0a := fun o => ((Up.refl W).alloc o).cell g0
    have g1a := fun o => ((Up.refl W).alloc o).cell g1
    try dsimp only at f0 f1 g0 g1 f0a f1a g0a g1a
    go_cut [6] (fun sl wc => ∃ S : Nat, sl = .pointer (some ⟨S, 0, none⟩) ∧ Hid (Up W wc) ∧ Hid (VRow wc S 98 [.int .i64 px, .int .i64 py, .int .i64 qx, .int .i64 qy]))
    case first =>
     go_region
     all_goals
      go_wp2
      go_meet
      case rel => exact ⟨W.heap.size, rfl, (by first | exact ((Up.refl W).alloc _).drew | exact (Up.refl W).alloc _ | exact ((Up.refl W).drew.alloc _)), (by first | exact VRow.drewN (VRow.new W _ _) 1 | exact VRow.new W _ _)⟩
    case rest =>
     obtain ⟨S, rfl, HUc, RS⟩ := hcut
     clear f0 f1 g0 g1 f0a f1a g0a g1a
     have RN2 := hide (RN.out.up HUc.out)
     have q0 := RN2.out.gr (i := 0) rfl
     have q1 := RN2.out.gr (i := 1) rfl
     have s0 := RS.out.gr (i := 0) rfl
     have s1 := RS.out.gr (i := 1) rfl
     have s2 := RS.out.gr (i := 2) rfl
     have s3 := RS.out.gr (i := 3) rfl
     have HA : Hid (∀ g : Gr wc, Calls Tryz.prog 127 #[.agg #[.int .i64 nx, .int .i64 ny]] g.v fun e w' => e = .returned (.agg #[.int .i64 nx, .int .i64 ny, .int .i64 1]) ∧ Up g.v w') := fun g => at_any (nx, ny) g.v
     have HB : Hid (∀ g : Gr wc, Calls Tryz.prog 126 #[.agg #[.int .i64 px, .int .i64 py, .int .i64 qx, .int .i64 qy], .agg #[.int .i64 nx, .int .i64 ny, .int .i64 1]] g.v fun e w' => e = .returned (.int .i64 (Vd.side ((px, py), (qx, qy)) (Vd.at1 (nx, ny)))) ∧ Up g.v w') := fun g => side_any ((px, py), (qx, qy)) (Vd.at1 (nx, ny)) ⟨Cp.out, Cq.out⟩ (Vd.at1_sp Cn.out) g.v
     generalize Vd.side ((px, py), (qx, qy)) (Vd.at1 (nx, ny)) = X at *
     go_wp2_with fail
     refine wp_region_up (by kernel_rfl) (by kernel_rfl) ?_
     repeat (first | go_big_quiet_step (first | (go_at_call 127; exact Calls.up_of (HA.out _)) | (go_at_call 126; exact Calls.up_of (HB.out _))))
     refine wpQuiet_nil ?_
     rintro w3 ⟨⟨_, u3⟩, rfl⟩
     have HU3 := hide ((HUW.out.trans HUc.out).trans u3)
     clear u3 q0 q1 s0 s1 s2 s3 HA HB RN2 RS HUc
     by_cases hX : X = 0
     ·have HO2 : Hid (World.ownsRow w3 w.heap.size 48 2 u (Vd.cornersI r (k + 1 + 1)).length (flat (Vd.cornersI r (k + 1 + 1)))) := by
       rw [HSk.out, hX]; simp only [ne_eq, not_true_eq_false, decide_false, Bool.false_eq_true, if_false, List.append_nil]; exact own_up HO.out HU3.out
      have hX' := bne_eq_false_iff_eq.2 hX
      subst hX
      go_wp2
      go_roundw
      case rel => exact ⟨k + 1, _, by go_num, rfl, by omega, HU.out.trans HU3.out, HO2, .inr (by omega)⟩
      case measure => simp [intOf]; omega
     ·have hX1 := bne_iff_ne.2 hX
      have hX2 := beq_eq_false_iff_ne.2 hX
      have g0 := HU3.out.cell D0.out
      have g1 := HU3.out.cell D1.out
      try dsimp only at g0 g1
      have HOA : Hid (∀ o, (w3.alloc o).ownsRow w.heap.size 48 2 u (Vd.cornersI r (k + 1)).length (flat (Vd.cornersI r (k + 1)))) := fun o => (own_up HO.out HU3.out).alloc o
      have hb : Hid ((Vd.cornersI r (k + 1)).length ≤ 1073741824) := by have := HLn.out (k + 1); show _ ≤ _; omega
      have hsz : Hid (w.heap.size ≤ w3.heap.size) := Nat.le_trans hTs.out HU3.out.size
      go_wp2_with (at_builtin; refine wpList_app el_pts rfl (.tmp 41) (.tmp 46) rfl w.heap.size _ _ _ (by rfl) (HOA.out _) w3.heap.size [.int .i64 qx, .int .i64 qy] (by rfl) rfl (heap_alloc_new w3 _) (by intro x hx; simp at hx; rcases hx with rfl | rfl <;> rfl) hb.out (by simp; have := hsz.out; omega) ?_; intro g cap w5 hown5 hg5 hat5 hlt5; have HO5 := hide hown5; have HU5 : Hid (Up w w5) := Fr.up (S := fun _ => False) (((Fr.of_up (HU.out.trans HU3.out)).alloc _).grown hg5 fun x hx => .inr (own_lt HO.out hx).1) (fun _ _ h => h); clear hown5 hg5 hat5 hlt5 g0 g1)
      go_roundw
      case rel => exact ⟨k + 1, _, by go_num, rfl, by omega, HU5, by rw [HSk.out]; simp only [hX, ne_eq, not_false_eq_true, decide_true, if_true]; rw [flat_append, List.length_append]; exact HO5, .inr (by omega)⟩
      case measure => simp [intOf]; omega
   ·obtain ⟨rfl, rfl⟩ := Prod.mk.inj en
    clear en HX
    go_upto_region 8 with fail
    clear e0 e1 RN0 HUT i9
    have HUW : Hid (Up wr (wr.alloc (.cells #[.int .i64 nx, .int .i64 ny] 48))) := (Up.refl _).alloc _
    have RN := hide (new_row (w := wr) (o := .cells #[.int .i64 nx, .int .i64 ny] 48) (vs := [.int .i64 nx, .int .i64 ny]) rfl)
    have hTl : Hid (u.ownBlock ≠ some wr.heap.size) := fun e => by have := (own_lt HO.out e).2; omega
    rw [hT] at RN hTl
    generalize wr.alloc (.cells #[.int .i64 nx, .int .i64 ny] 48) = W at *
    have f0 := HUW.out.cell C0.out
    have f1 := HUW.out.cell C1.out
    have g0 := HUW.out.cell D0.out
    have g1 := HUW.out.cell D1.out
    have f0a := fun o => ((Up.refl W).alloc o).cell f0
    have f1a := fun o => ((Up.refl W).alloc o).cell f1
    have g0a := fun o => ((Up.refl W).alloc o).cell g0
    have g1a := fun o => ((Up.refl W).alloc o).cell g1
    try dsimp only at f0 f1 g0 g1 f0a f1a g0a g1a
    go_cut [6] (fun sl wc => ∃ S : Nat, sl = .pointer (some ⟨S, 0, none⟩) ∧ Hid (Up W wc) ∧ Hid (VRow wc S 98 [.int .i64 px, .int .i64 py, .int .i64 qx, .int .i64 qy]))
    case first =>
     go_region
     all_goals
      go_wp2
      go_meet
      case rel => exact ⟨W.heap.size, rfl, (by first | exact ((Up.refl W).alloc _).drew | exact (Up.refl W).alloc _ | exact ((Up.refl W).drew.alloc _)), (by first | exact VRow.drewN (VRow.new W _ _) 1 | exact VRow.new W _ _)⟩
    case rest =>
     obtain ⟨S, rfl, HUc, RS⟩ := hcut
     clear f0 f1 g0 g1 f0a f1a g0a g1a
     have RN2 := hide (RN.out.up HUc.out)
     have q0 := RN2.out.gr (i := 0) rfl
     have q1 := RN2.out.gr (i := 1) rfl
     have s0 := RS.out.gr (i := 0) rfl
     have s1 := RS.out.gr (i := 1) rfl
     have s2 := RS.out.gr (i := 2) rfl
     have s3 := RS.out.gr (i := 3) rfl
     have HA : Hid (∀ g : Gr wc, Calls Tryz.prog 127 #[.agg #[.int .i64 nx, .int .i64 ny]] g.v fun e w' => e = .returned (.agg #[.int .i64 nx, .int .i64 ny, .int .i64 1]) ∧ Up g.v w') := fun g => at_any (nx, ny) g.v
     have HB : Hid (∀ g : Gr wc, Calls Tryz.prog 126 #[.agg #[.int .i64 px, .int .i64 py, .int .i64 qx, .int .i64 qy], .agg #[.int .i64 nx, .int .i64 ny, .int .i64 1]] g.v fun e w' => e = .returned (.int .i64 (Vd.side ((px, py), (qx, qy)) (Vd.at1 (nx, ny)))) ∧ Up g.v w') := fun g => side_any ((px, py), (qx, qy)) (Vd.at1 (nx, ny)) ⟨Cp.out, Cq.out⟩ (Vd.at1_sp Cn.out) g.v
     generalize Vd.side ((px, py), (qx, qy)) (Vd.at1 (nx, ny)) = X at *
     go_wp2_with fail
     refine wp_region_up (by kernel_rfl) (by kernel_rfl) ?_
     repeat (first | go_big_quiet_step (first | (go_at_call 127; exact Calls.up_of (HA.out _)) | (go_at_call 126; exact Calls.up_of (HB.out _))))
     refine wpQuiet_nil ?_
     rintro w3 ⟨⟨_, u3⟩, rfl⟩
     have HU3 := hide ((HUW.out.trans HUc.out).trans u3)
     clear u3 q0 q1 s0 s1 s2 s3 HA HB RN2 RS HUc
     by_cases hX : X = 0
     ·have HO2 : Hid (World.ownsRow w3 w.heap.size 48 2 u (Vd.cornersI r (k + 1 + 1)).length (flat (Vd.cornersI r (k + 1 + 1)))) := by
       rw [HSk.out, hX]; simp only [ne_eq, not_true_eq_false, decide_false, Bool.false_eq_true, if_false, List.append_nil]; exact own_up HO.out HU3.out
      have hX' := bne_eq_false_iff_eq.2 hX
      subst hX
      go_wp2
      go_roundw
      case rel => exact ⟨k + 1, _, by go_num, rfl, by omega, HU.out.trans HU3.out, HO2, .inr (by omega)⟩
      case measure => simp [intOf]; omega
     ·have hX1 := bne_iff_ne.2 hX
      have hX2 := beq_eq_false_iff_ne.2 hX
      have g0 := HU3.out.cell D0.out
      have g1 := HU3.out.cell D1.out
      try dsimp only at g0 g1
      have HOA : Hid (∀ o, (w3.alloc o).ownsRow w.heap.size 48 2 u (Vd.cornersI r (k + 1)).length (flat (Vd.cornersI r (k + 1)))) := fun o => (own_up HO.out HU3.out).alloc o
      have hb : Hid ((Vd.cornersI r (k + 1)).length ≤ 1073741824) := by have := HLn.out (k + 1); show _ ≤ _; omega
      have hsz : Hid (w.heap.size ≤ w3.heap.size) := Nat.le_trans hTs.out HU3.out.size
      go_wp2_with (at_builtin; refine wpList_app el_pts rfl (.tmp 41) (.tmp 46) rfl w.heap.size _ _ _ (by rfl) (HOA.out _) w3.heap.size [.int .i64 qx, .int .i64 qy] (by rfl) rfl (heap_alloc_new w3 _) (by intro x hx; simp at hx; rcases hx with rfl | rfl <;> rfl) hb.out (by simp; have := hsz.out; omega) ?_; intro g cap w5 hown5 hg5 hat5 hlt5; have HO5 := hide hown5; have HU5 : Hid (Up w w5) := Fr.up (S := fun _ => False) (((Fr.of_up (HU.out.trans HU3.out)).alloc _).grown hg5 fun x hx => .inr (own_lt HO.out hx).1) (fun _ _ h => h); clear hown5 hg5 hat5 hlt5 g0 g1)
      go_roundw
      case rel => exact ⟨k + 1, _, by go_num, rfl, by omega, HU5, by rw [HSk.out]; simp only [hX, ne_eq, not_false_eq_true, decide_true, if_true]; rw [flat_append, List.length_append]; exact HO5, .inr (by omega)⟩
      case measure => simp [intOf]; omega
  ·have HR : Hid (Vd.cornersI r (k + 1) = Vd.corners r) := by
    rw [HD.out]
    rcases HK0.out with h | h
    ·subst h
     have e := HS.out 0
     rcases (show r.length = 0 ∨ r.length = 1 by omega) with h | h
     ·rw [h, H1.out]; exact rfl
     ·rw [h]; exact rfl
    ·rw [show k + 1 = r.length by omega]; exact rfl
   rw [HR.out] at HO
   have i9 : ¬ (k : Int) + 1 < (r.length : Int) := by omega
   go_wp2
   go_ret
   exact ⟨_, rfl, HU.out, HO.out⟩
namespace Vd
theorem leastN_succ (v : Ring) (n : Nat) : leastN v (n + 1) = leastS v (leastN v n) n := by
 unfold leastN; rw [List.range_succ, List.foldl_append]; rfl
theorem leastN_le (v : Ring) : ∀ n, leastN v n ≤ n - 1
  | 0 => Nat.le_refl _
  | n + 1 => by
    rw [leastN_succ]; unfold leastS
    have := leastN_le v n
    split <;> omega
end Vd
set_option maxRecDepth 8000 in
set_option maxHeartbeats 4000000 in
theorem least2_any (v : Value) (r : Ring) (w : World) (hv : Rd1 w v r) (hr : r.length ≤ 1048576) :
  Calls Tryz.prog 89 #[v] w fun e w' => e = .returned (.int .i64 (Vd.leastI r)) ∧ Up w w' := by
 obtain ⟨ao, cap, rfl, hm⟩ := hv
 have HM := hide hm
 have HS := hide (fun n => Vd.leastN_succ r n)
 have HL := hide (fun n => Vd.leastN_le r n)
 have HD : Hid (Vd.leastI r = Vd.leastN r r.length) := rfl
 clear hm
 go_enter Tryz.func89, Tryz.ntmps89
 go_wp2
 go_loopw [3, 8] (fun fv i wr => ∃ (k f : Nat), i = .int .i64 k ∧ fv = .int .i64 f ∧ k ≤ r.length ∧ Hid (Up w wr) ∧ Hid (f = Vd.leastN r k)) (fun _ i _ => r.length - (intOf i).toNat)
 case atStart => exact ⟨0, 0, rfl, rfl, Nat.zero_le _, Up.refl _, rfl⟩
 case round =>
  obtain ⟨k, f, rfl, rfl, hk, HU, HF⟩ := hrel
  by_cases hlt : k < r.length
  ·obtain ⟨⟨px, py⟩, hp⟩ := Pl.some_of_lt hlt
   have hfl : f < r.length := by have := HL.out k; rw [← HF.out] at this; omega
   obtain ⟨⟨qx, qy⟩, hq⟩ := Pl.some_of_lt hfl
   obtain ⟨b, rfl, c0, c1⟩ := HM.out k _ hp
   obtain ⟨b', e', d0, d1⟩ := HM.out f _ hq
   cases e'
   have e0 := HU.out.cell c0
   have e1 := HU.out.cell c1
   have HUT : Hid (Up wr (wr.alloc (.cells #[.int .i64 px, .int .i64 py] 48))) := (Up.refl _).alloc _
   have RN := hide (new_row (w := wr) (o := .cells #[.int .i64 px, .int .i64 py] 48) (vs := [.int .i64 px, .int .i64 py]) rfl)
   have g0 := cell_gr (HUT.out.cell (HU.out.cell d0))
   have g1 := cell_gr (HUT.out.cell (HU.out.cell d1))
   have q0 := RN.out.gr (i := 0) rfl
   have q1 := RN.out.gr (i := 1) rfl
   have HK : Hid (∀ g : Gr (wr.alloc (.cells #[.int .i64 px, .int .i64 py] 48)), Calls Tryz.prog 128 #[.agg #[.int .i64 px, .int .i64 py], .agg #[.int .i64 qx, .int .i64 qy]] g.v fun e w' => e = .returned (.bool (decide (Vd.bef (px, py) (qx, qy)))) ∧ Up g.v w') := fun g => before_any (px, py) (qx, qy) g.v
   have HSk : Hid (Vd.leastN r (k + 1) = if Vd.bef (px, py) (qx, qy) then k else f) := by
    rw [HS.out, ← HF.out]; unfold Vd.leastS; rw [ptAt_some hp, ptAt_some hq]; exact rfl
   have i1 : (0 : Int) ≤ (k : Int) := by omega
   have i2 : (k : Int) < (r.length : Int) := by omega
   have i3 : (0 : Int) ≤ (f : Int) := by omega
   have i4 : (f : Int) < (r.length : Int) := by omega
   try dsimp only at e0 e1 g0 g1 q0 q1
   by_cases hb : Vd.bef (px, py) (qx, qy)
   all_goals
    first | rw [decide_eq_true hb] at HK | rw [decide_eq_false hb] at HK
    first | rw [if_pos hb] at HSk | rw [if_neg hb] at HSk
    clear hp hq c0 c1 d0 d1 hb
    go_upto_region 5 with fail
    refine wp_region_up (by kernel_rfl) (by kernel_rfl) ?_
    repeat (first | go_big_quiet_step ((go_at_call 128; exact Calls.up_of (HK.out _))))
    refine wpQuiet_nil ?_
    rintro w3 ⟨⟨_, u3⟩, rfl⟩
    have HU3 := hide (HU.out.trans (HUT.out.trans u3))
    clear u3 e0 e1 g0 g1 q0 q1 HK
    go_wp2
    go_roundw
    case rel => exact ⟨k + 1, _, by go_num, rfl, by omega, HU3, HSk.out.symm⟩
    case measure => simp [intOf]; omega
  ·have hk2 : k = r.length := by omega
   have HR : Hid (f = Vd.leastI r) := by rw [HD.out, HF.out, hk2]; exact rfl
   have i9 : ¬ (k : Int) < (r.length : Int) := by omega
   clear hk2
   go_wp2
   go_ret
   exact ⟨ret_i (by rw [HR.out]), HU.out⟩
set_option maxRecDepth 8000 in
set_option maxHeartbeats 4000000 in
theorem turnsLeft_any (v : Value) (r : Ring) (k : Nat) (w : World) (hv : Rd1 w v r) (hr : r.length ≤ 1048576) (hc : Vd.CdR r) (hk : k < r.length) :
  Calls Tryz.prog 90 #[v, .int .i64 k] w fun e w' => e = .returned (.bool (Vd.lefts r k)) ∧ Up w w' := by
 obtain ⟨ao, cap, rfl, hm⟩ := hv
 have hpl : (k + r.length - 1) % r.length < r.length := Nat.mod_lt _ (by omega)
 have hnl : (k + 1) % r.length < r.length := Nat.mod_lt _ (by omega)
 obtain ⟨⟨px, py⟩, hp⟩ := Pl.some_of_lt hpl
 obtain ⟨⟨qx, qy⟩, hq⟩ := Pl.some_of_lt hk
 obtain ⟨⟨nx, ny⟩, hn⟩ := Pl.some_of_lt hnl
 obtain ⟨b, rfl, c0, c1⟩ := hm _ _ hp
 obtain ⟨b', e', d0, d1⟩ := hm _ _ hq
 cases e'
 obtain ⟨b', e', n0, n1⟩ := hm _ _ hn
 cases e'
 have HR : Hid (Vd.lefts r k = decide (0 < Vd.side ((px, py), (qx, qy)) (Vd.at1 (nx, ny)))) := by unfold Vd.lefts; rw [ptAt_some hp, ptAt_some hq, ptAt_some hn]; exact rfl
 have Cp := hide (hc _ (Pl.mem_of_some hp))
 have Cq := hide (hc _ (Pl.mem_of_some hq))
 have Cn := hide (hc _ (Pl.mem_of_some hn))
 have j1 : IntKind.i64.wrap ((k : Int) + (r.length : Int)) = (k : Int) + (r.length : Int) := wrap_id (by omega) (by omega)
 have j2 : IntKind.i64.wrap ((k : Int) + (r.length : Int) - 1) = (k : Int) + (r.length : Int) - 1 := wrap_id (by omega) (by omega)
 have j3 : IntKind.i64.wrap ((k : Int) + 1) = (k : Int) + 1 := wrap_id (by omega) (by omega)
 have jn : ¬ r = [] := fun e => by subst e; simp at hk
 obtain ⟨P, hP⟩ : ∃ P, (k + r.length - 1) % r.length = P := ⟨_, rfl⟩
 obtain ⟨N, hN⟩ : ∃ N, (k + 1) % r.length = N := ⟨_, rfl⟩
 have j4 : ((k : Int) + (r.length : Int) - 1).tmod (r.length : Int) = (P : Int) := by
  rw [← hP, show (k : Int) + (r.length : Int) - 1 = ((k + r.length - 1 : Nat) : Int) by omega]; exact rfl
 have j5 : ((k : Int) + 1).tmod (r.length : Int) = (N : Int) := by rw [← hN]; exact rfl
 rw [hP] at c0 c1 hpl
 rw [hN] at n0 n1 hnl
 have k1 : (P : Int) < (r.length : Int) := by omega
 have k2 : (N : Int) < (r.length : Int) := by omega
 have k3 : (k : Int) < (r.length : Int) := by omega
 have k4 : (0 : Int) ≤ (P : Int) := by omega
 have k5 : (0 : Int) ≤ (N : Int) := by omega
 have k6 : (0 : Int) ≤ (k : Int) := by omega
 have c0a := fun o => ((Up.refl w).alloc o).cell c0
 have c1a := fun o => ((Up.refl w).alloc o).cell c1
 have d0a := fun o => ((Up.refl w).alloc o).cell d0
 have d1a := fun o => ((Up.refl w).alloc o).cell d1
 try dsimp only at c0 c1 d0 d1 n0 n1 c0a c1a d0a d1a
 have N0 := hide n0
 have N1 := hide n1
 clear hm hc hp hq hn hP hN n0 n1
 go_enter Tryz.func90, Tryz.ntmps90
 go_upto_region 2 with fail
 go_cut [6] (fun sl wc => ∃ S : Nat, sl = .pointer (some ⟨S, 0, none⟩) ∧ Hid (Up w wc) ∧ Hid (VRow wc S 98 [.int .i64 px, .int .i64 py, .int .i64 qx, .int .i64 qy]))
 case first =>
  go_region
  all_goals
   go_wp2
   go_meet
   case rel => exact ⟨w.heap.size, rfl, (by first | exact ((Up.refl w).alloc _).drew | exact (Up.refl w).alloc _ | exact ((Up.refl w).drew.alloc _)), (by first | exact VRow.drewN (VRow.new w _ _) 1 | exact VRow.new w _ _)⟩
 case rest =>
  obtain ⟨S, rfl, HUc, RS⟩ := hcut
  clear c0 c1 d0 d1 c0a c1a d0a d1a
  have s0 := RS.out.gr (i := 0) rfl
  have s1 := RS.out.gr (i := 1) rfl
  have s2 := RS.out.gr (i := 2) rfl
  have s3 := RS.out.gr (i := 3) rfl
  have q0 := cell_gr (HUc.out.cell N0.out)
  have q1 := cell_gr (HUc.out.cell N1.out)
  have HA : Hid (∀ g : Gr wc, Calls Tryz.prog 127 #[.agg #[.int .i64 nx, .int .i64 ny]] g.v fun e w' => e = .returned (.agg #[.int .i64 nx, .int .i64 ny, .int .i64 1]) ∧ Up g.v w') := fun g => at_any (nx, ny) g.v
  have HB : Hid (∀ g : Gr wc, Calls Tryz.prog 126 #[.agg #[.int .i64 px, .int .i64 py, .int .i64 qx, .int .i64 qy], .agg #[.int .i64 nx, .int .i64 ny, .int .i64 1]] g.v fun e w' => e = .returned (.int .i64 (Vd.side ((px, py), (qx, qy)) (Vd.at1 (nx, ny)))) ∧ Up g.v w') := fun g => side_any ((px, py), (qx, qy)) (Vd.at1 (nx, ny)) ⟨Cp.out, Cq.out⟩ (Vd.at1_sp Cn.out) g.v
  generalize Vd.side ((px, py), (qx, qy)) (Vd.at1 (nx, ny)) = X at *
  go_wp2_with fail
  refine wp_region_up (by kernel_rfl) (by kernel_rfl) ?_
  repeat (first | go_big_quiet_step (first | (go_at_call 127; exact Calls.up_of (HA.out _)) | (go_at_call 126; exact Calls.up_of (HB.out _))))
  refine wpQuiet_nil ?_
  rintro w3 ⟨⟨_, u3⟩, rfl⟩
  have HU3 := hide (HUc.out.trans u3)
  clear u3 q0 q1 s0 s1 s2 s3 HA HB RS HUc
  go_wp2
  go_ret
  exact ⟨ret_b (by rw [HR.out]), HU3.out⟩
end Go.Proofs.YtcclepohmhdpbabGreatDoor
