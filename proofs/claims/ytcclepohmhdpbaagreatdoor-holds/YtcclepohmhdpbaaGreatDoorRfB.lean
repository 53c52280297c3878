/- THE DOCUMENT's WALKS: inRing. -/
import Derived.Test.YtcclepohmhdpbaaGreatDoorRfA
namespace Go.Proofs.YtcclepohmhdpbaaGreatDoor
set_option linter.all false
open Go.RowKit Go.Deep

theorem inRingL_on {s : Vd.Seg} {l : List Vd.Seg} {i : Bool} {p : Vd.Spot} (h : onB s.1 s.2 p = true) : Vd.inRingL (s :: l) i p = 0 := by unfold Vd.inRingL; rw [if_pos (of_decide_eq_true h)]
theorem inRingL_go {s : Vd.Seg} {l : List Vd.Seg} {i : Bool} {p : Vd.Spot} (h : onB s.1 s.2 p = false) : Vd.inRingL (s :: l) i p = Vd.inRingL l (if Vd.rayD s.1 s.2 p.1 p.2 = true then !i else i) p := by conv => lhs; unfold Vd.inRingL; rw [if_neg (of_decide_eq_false h)]
theorem on_is {a b : Pnt} {p : Vd.Spot} {c : Bool} (h : onB a b p = c) (ha : Vd.Cd a) (hb : Vd.Cd b) (hp : Vd.Sp p) (w : World) : Calls Tryz.prog 203 #[ptV a, ptV b, ptV p.1, .int .i64 p.2] w fun e w' => e = .returned (.bool c) ∧ Up w w' := by
  have := on_any a b p ha hb hp w; rwa [h] at this
theorem two_set {w : World} {g : Nat} {p : Addr} {v x y : Value} (h : w.cell? p = some v) (hg : p.block ≠ g) : ((w.setCell ⟨g, 0, none⟩ x).setCell ⟨g, 1, none⟩ y).cell? p = some v := by
  rw [World.cell?_of_block (Below.heap_setCell _ _ _ _ hg), World.cell?_of_block (Below.heap_setCell _ _ _ _ hg)]; exact h
theorem rayD_at {a b p : Pnt} {w : Int} {lo hi : Pnt} (hlo : lo = if a.2 > b.2 then b else a) (hhi : hi = if a.2 > b.2 then a else b) : Vd.rayD a b p w = (decide (lo.2 * w ≤ p.2 ∧ p.2 < hi.2 * w) && decide (Vd.cr lo hi p w > 0)) := by subst hlo hhi; rfl

set_option maxRecDepth 8000 in
set_option maxHeartbeats 8000000 in
theorem inRing_any (v : Value) (r : Ring) (p : Vd.Spot) (w : World) (hv : Rd1 w v r) (hr : r.length ≤ 1048576) (hc : Vd.CdR r) (hp : Vd.Sp p) :
    Calls Tryz.prog 164 #[v, ptV p.1, .int .i64 p.2] w fun e w' => e = .returned (.int .i64 (Vd.inRing r p)) ∧ Up w w' := by
  obtain ⟨ao, cap, rfl, hm⟩ := hv
  have HM := hide hm
  have HC := hide hc
  have HP := hide hp
  obtain ⟨⟨x, y⟩, t⟩ := p
  simp only [Vd.Sp] at hp
  obtain ⟨px1, px2, py1, py2, pt1, pt2⟩ := hp
  clear hm hc
  simp only [ptV]
  have R0 := hide (new_row (w := w) (o := .cells #[.int .i64 x, .int .i64 y] 32) (vs := [.int .i64 x, .int .i64 y]) rfl)
  have HU0 : Hid (Up w (w.alloc (.cells #[.int .i64 x, .int .i64 y] 32))) := (Up.refl _).alloc _
  go_enter Tryz.func164, Tryz.ntmps164
  go_wp2
  go_loopw [7, 8] (fun ov i wr => ∃ (k : Nat) (b : Bool), i = .int .i64 k ∧ ov = .bool b ∧ k ≤ r.length ∧ Hid (Up w wr) ∧ Hid (VRow wr w.heap.size 32 [.int .i64 x, .int .i64 y]) ∧ Hid (Vd.inRing r ((x, y), t) = Vd.inRingL ((Vd.segs r).drop k) b ((x, y), t))) (fun _ i _ => r.length - (intOf i).toNat)
  case atStart => exact ⟨0, false, rfl, rfl, Nat.zero_le _, HU0, R0, rfl⟩
  case round =>
    clear HU0 R0
    obtain ⟨k, b, rfl, rfl, hk, HU, R0, HE⟩ := hrel
    by_cases hlt : k + 1 < r.length
    · obtain ⟨⟨ax, ay⟩, ha⟩ := Pl.some_of_lt (show k < r.length by omega)
      obtain ⟨⟨bx, bY⟩, hb⟩ := Pl.some_of_lt hlt
      rw [drop_at (Vd.segs_at ha hb)] at HE
      obtain ⟨g, rfl, c0, c1⟩ := HM.out k _ ha
      obtain ⟨g', e', d0, d1⟩ := HM.out (k + 1) _ hb
      cases e'
      have HA := hide (HC.out _ (Pl.mem_of_some ha))
      have HB := hide (HC.out _ (Pl.mem_of_some hb))
      have Hc0 := hide (HU.out.cell c0)
      have Hc1 := hide (HU.out.cell c1)
      have Hd0 := hide (HU.out.cell d0)
      have Hd1 := hide (HU.out.cell d1)
      have s0 := cell_gr Hc0.out
      have s1 := cell_gr Hc1.out
      have s2 := cell_gr Hd0.out
      have s3 := cell_gr Hd1.out
      have q0 := R0.out.gr (i := 0) rfl
      have q1 := R0.out.gr (i := 1) rfl
      dsimp only at s0 s1 s2 s3
      have i1 : (0 : Int) ≤ (k : Int) := by omega
      have i2 : (k : Int) < (r.length : Int) := by omega
      have i3 : (k : Int) + 1 < (r.length : Int) := by omega
      have i4 : (0 : Int) ≤ (k : Int) + 1 := by omega
      clear c0 c1 d0 d1 ha hb
      cases ho : onB (ax, ay) (bx, bY) ((x, y), t)
      · have Ho := hide ho
        have HE2 := hide (HE.out.trans (inRingL_go ho))
        clear ho
        go_wp2_with fail
        refine wp_region_up (by kernel_rfl) (by kernel_rfl) ?_
        repeat (first | go_big_quiet_step ((go_at_call 203; exact Calls.up_of (on_is Ho.out HA.out HB.out HP.out _))))
        refine wpQuiet_nil ?_
        rintro w2 ⟨⟨_, hz2⟩, rfl⟩
        clear s0 s1 s2 s3 q0 q1
        have HU2 := hide (HU.out.trans hz2)
        have R2 := hide (R0.out.up hz2)
        have c0 := hz2.cell Hc0.out
        have c1 := hz2.cell Hc1.out
        have d0 := fun o => ((Up.refl w2).alloc o).cell (hz2.cell Hd0.out)
        have d1 := fun o => ((Up.refl w2).alloc o).cell (hz2.cell Hd1.out)
        try dsimp only at c0 c1 d0 d1
        clear hz2
        go_upto_if 47 with fail
        have hne := ne_size (Up.refl w2) c0
        have hne2 : g ≠ w2.heap.size + 1 := by have := lt_of_cell c0; simp only at this; omega
        have HU3 := hide ((HU2.out.alloc (.cells #[.int .i64 ax, .int .i64 ay] 32)).alloc (.cells #[.int .i64 bx, .int .i64 bY] 32))
        have R3 := hide ((R2.out.alloc (.cells #[.int .i64 ax, .int .i64 ay] 32)).alloc (.cells #[.int .i64 bx, .int .i64 bY] 32))
        have RA := hide ((new_row (w := w2) (o := .cells #[.int .i64 ax, .int .i64 ay] 32) (vs := [.int .i64 ax, .int .i64 ay]) rfl).alloc (.cells #[.int .i64 bx, .int .i64 bY] 32))
        have RB : Hid (VRow ((w2.alloc (.cells #[.int .i64 ax, .int .i64 ay] 32)).alloc (.cells #[.int .i64 bx, .int .i64 bY] 32)) (w2.heap.size + 1) 32 [.int .i64 bx, .int .i64 bY]) := by
          have := new_row (w := w2.alloc (.cells #[.int .i64 ax, .int .i64 ay] 32)) (o := .cells #[.int .i64 bx, .int .i64 bY] 32) (vs := [.int .i64 bx, .int .i64 bY]) rfl
          show VRow _ _ _ _
          simpa using this
        have e0 := (((Up.refl w2).alloc (.cells #[.int .i64 ax, .int .i64 ay] 32)).alloc (.cells #[.int .i64 bx, .int .i64 bY] 32)).cell c0
        have e1 := (((Up.refl w2).alloc (.cells #[.int .i64 ax, .int .i64 ay] 32)).alloc (.cells #[.int .i64 bx, .int .i64 bY] 32)).cell c1
        have e2 := ((Up.refl _).alloc (.cells #[.int .i64 bx, .int .i64 bY] 32)).cell (d0 (.cells #[.int .i64 ax, .int .i64 ay] 32))
        have e3 := ((Up.refl _).alloc (.cells #[.int .i64 bx, .int .i64 bY] 32)).cell (d1 (.cells #[.int .i64 ax, .int .i64 ay] 32))
        generalize hW : (w2.alloc (.cells #[.int .i64 ax, .int .i64 ay] 32)).alloc (.cells #[.int .i64 bx, .int .i64 bY] 32) = W at *
        have hsz := hide HU2.out.size
        have hRl := hide R2.out.lt
        generalize hA : w2.heap.size = A at *
        clear hA hW c0 c1 d0 d1 HU2 R2
        go_cut [] (fun wc => ∃ lo hi : Pnt, Hid (lo = if (ax, ay).2 > (bx, bY).2 then (bx, bY) else (ax, ay)) ∧ Hid (hi = if (ax, ay).2 > (bx, bY).2 then (ax, ay) else (bx, bY)) ∧ Hid (Up w wc) ∧ Hid (VRow wc w.heap.size 32 [.int .i64 x, .int .i64 y]) ∧ Hid (VRow wc A 32 [.int .i64 lo.1, .int .i64 lo.2]) ∧ Hid (VRow wc (A + 1) 32 [.int .i64 hi.1, .int .i64 hi.2]))
        case first =>
          by_cases hsw : bY < ay
          · have Hsw := hide hsw
            have a0 := RA.out.cell (i := 0) rfl
            have a1 := RA.out.cell (i := 1) rfl
            have af := fun i => RA.out.frozen i
            have b0 := RB.out.cell (i := 0) rfl
            have b1 := RB.out.cell (i := 1) rfl
            have f0 := fun v1 v2 => two_set (g := A) (x := v1) (y := v2) e0 hne
            have f1 := fun v1 v2 => two_set (g := A) (x := v1) (y := v2) e1 hne
            have g0 := fun v1 v2 => two_set (g := A) (x := v1) (y := v2) b0 (by show A + 1 ≠ A; omega)
            have g1 := fun v1 v2 => two_set (g := A) (x := v1) (y := v2) b1 (by show A + 1 ≠ A; omega)
            have gf := fun v1 v2 i => ((RB.out.setOther (a := ⟨A, 0, none⟩) (by show A + 1 ≠ A; omega) v1).setOther (a := ⟨A, 1, none⟩) (by show A + 1 ≠ A; omega) v2).frozen i
            go_wp2
            go_meet
            case rel =>
              refine ⟨(bx, bY), (ax, ay), (if_pos Hsw.out).symm, (if_pos Hsw.out).symm, ?_, ?_, ?_, ?_⟩
              · exact (((HU3.out.setCell hsz.out _).setCell hsz.out _).setCell (Nat.le_succ_of_le hsz.out) _).setCell (Nat.le_succ_of_le hsz.out) _
              · exact (((R3.out.setOther (Nat.ne_of_lt hRl.out) _).setOther (Nat.ne_of_lt hRl.out) _).setOther (Nat.ne_of_lt (Nat.lt_succ_of_lt hRl.out)) _).setOther (Nat.ne_of_lt (Nat.lt_succ_of_lt hRl.out)) _
              · exact ((row_set2 RA.out _ _).setOther (by show A ≠ A + 1; omega) _).setOther (by show A ≠ A + 1; omega) _
              · exact row_set2 ((RB.out.setOther (by show A + 1 ≠ A; omega) _).setOther (by show A + 1 ≠ A; omega) _) _ _
          · have Hsw := hide hsw
            go_wp2
            go_meet
            case rel => exact ⟨(ax, ay), (bx, bY), (if_neg (Int.not_lt.2 Hsw.out)).symm, (if_neg (Int.not_lt.2 Hsw.out)).symm, HU3.out, R3.out, RA.out, RB.out⟩
        case rest =>
          clear RA RB R3 HU3 e0 e1 e2 e3 hne hne2
          obtain ⟨⟨lx, ly⟩, ⟨hx, hy⟩, HL, HH, HU3, R3, RA, RB⟩ := hcut
          have hcl : Vd.Cd (lx, ly) := by rw [HL.out]; split; exact HB.out; exact HA.out
          have hch : Vd.Cd (hx, hy) := by rw [HH.out]; split; exact HA.out; exact HB.out
          have HRay := hide (rayD_at (p := (x, y)) (w := t) HL.out HH.out)
          have HCL := hide hcl
          have HCH := hide hch
          have HCR : Hid (Vd.cr (lx, ly) (hx, hy) (x, y) t = timesP (subP (lx, ly) (hx, hy)) (x - lx * t, y - ly * t)) := rfl
          simp only [Vd.Cd] at hcl hch
          obtain ⟨l1, l2, l3, l4⟩ := hcl
          obtain ⟨-, -, h3, h4⟩ := hch
          have m1 := mul_bd (a := lx) (b := t) (A := 32768) (B := 1048576) (by omega) (by omega) (by omega) (by omega)
          have m2 := mul_bd (a := ly) (b := t) (A := 32768) (B := 1048576) (by omega) (by omega) (by omega) (by omega)
          have m3 := mul_bd (a := hy) (b := t) (A := 32768) (B := 1048576) (by omega) (by omega) (by omega) (by omega)
          have hvb : Hid (Bdd 34360786944 (x - lx * t, y - ly * t)) := by show (_ ∧ _) ∧ _ ∧ _; simp only; omega
          have a0 := RA.out.cell (i := 0) rfl
          have a1 := RA.out.cell (i := 1) rfl
          have b0 := RB.out.cell (i := 0) rfl
          have b1 := RB.out.cell (i := 1) rfl
          have q0 := R3.out.cell (i := 0) rfl
          have q1 := R3.out.cell (i := 1) rfl
          simp only at HRay HCR
          clear HL HH
          by_cases t1 : ly * t ≤ y
          · by_cases t2 : y < hy * t
            · have HR2 : Hid (Vd.rayD (ax, ay) (bx, bY) (x, y) t = decide (timesP (subP (lx, ly) (hx, hy)) (x - lx * t, y - ly * t) > 0)) := by rw [HRay.out, HCR.out]; simp [t1, t2, Hid]
              have hsu := hide (sub_bdd HCL.out HCH.out)
              go_wp2_with fail
              refine (way2_any (lx, ly) (hx, hy) (bdd_mono (cd_bdd HCL.out) (by omega)) (bdd_mono (cd_bdd HCH.out) (by omega)) _).mono ?_
              rintro e w3 ⟨rfl, hz3⟩
              replace HU3 := hide (HU3.out.trans hz3)
              replace R3 := hide (R3.out.up hz3)
              replace RA := hide (RA.out.up hz3)
              generalize hU : subP (lx, ly) (hx, hy) = U at *
              clear hU hz3 a0 a1 b0 b1 q0 q1 RB
              obtain ⟨ux, uy⟩ := U
              simp only [ptV]
              have q0 := fun o => (RA.out.alloc o).cell (i := 0) rfl
              have q1 := fun o => (RA.out.alloc o).cell (i := 1) rfl
              have q2 := fun o => (R3.out.alloc o).cell (i := 0) rfl
              have q3 := fun o => (R3.out.alloc o).cell (i := 1) rfl
              have RU := hide ((new_row (w := w3) (o := .cells #[.int .i64 ux, .int .i64 uy] 155) (vs := [.int .i64 ux, .int .i64 uy]) rfl).alloc (.cells #[.int .i64 (x - lx * t), .int .i64 (y - ly * t)] 155))
              have R4 := hide ((R3.out.alloc (.cells #[.int .i64 ux, .int .i64 uy] 155)).alloc (.cells #[.int .i64 (x - lx * t), .int .i64 (y - ly * t)] 155))
              have u0 := RU.out.cell (i := 0) rfl
              have u1 := RU.out.cell (i := 1) rfl
              go_wp2_with fail
              refine (times_any (ux, uy) (x - lx * t, y - ly * t) hsu.out hvb.out (by omega) (by omega) (by omega) _).mono ?_
              rintro e w4 ⟨rfl, hz4⟩
              replace HU3 := hide (((HU3.out.alloc _).alloc _).trans hz4)
              replace R4 := hide (R4.out.up hz4)
              clear hz4 u0 u1 q0 q1 q2 q3 RA RU
              generalize timesP (ux, uy) (x - lx * t, y - ly * t) = T at *
              by_cases h5 : T > 0
              all_goals
                replace HE2 := hide (HE2.out.trans (by rw [HR2.out]))
                simp only [h5, decide_true, decide_false, if_true, if_false, Bool.false_eq_true] at HE2
                go_wp2
                go_roundw
                case rel => exact ⟨k + 1, _, by go_num, rfl, by omega, HU3, R4, HE2⟩
                case measure => simp [intOf]; omega
            · have HR2 : Hid (Vd.rayD (ax, ay) (bx, bY) (x, y) t = false) := by rw [HRay.out]; simp [t2, Hid]
              rw [HR2.out] at HE2
              go_wp2
              go_roundw
              case rel => exact ⟨k + 1, _, by go_num, rfl, by omega, HU3, R3, HE2⟩
              case measure => simp [intOf]; omega
          · have HR2 : Hid (Vd.rayD (ax, ay) (bx, bY) (x, y) t = false) := by rw [HRay.out]; simp [t1, Hid]
            rw [HR2.out] at HE2
            go_wp2
            go_roundw
            case rel => exact ⟨k + 1, _, by go_num, rfl, by omega, HU3, R3, HE2⟩
            case measure => simp [intOf]; omega
      · have Ho := hide ho
        have HE2 := hide (HE.out.trans (inRingL_on ho))
        clear ho
        go_wp2_with fail
        refine wp_region_up (by kernel_rfl) (by kernel_rfl) ?_
        repeat (first | go_big_quiet_step ((go_at_call 203; exact Calls.up_of (on_is Ho.out HA.out HB.out HP.out _))))
        refine wpQuiet_nil ?_
        rintro w2 ⟨⟨_, hz2⟩, rfl⟩
        have HU2 := hide (HU.out.trans hz2)
        clear s0 s1 s2 s3 q0 q1 hz2
        go_wp2
        go_ret
        exact ⟨ret_i HE2.out.symm, HU2.out⟩
    · have hk2 : (Vd.segs r).length ≤ k := by rw [Vd.segs_len]; omega
      rw [List.drop_eq_nil_of_le hk2] at HE
      cases b
      all_goals
        go_wp2
        go_ret
        exact ⟨ret_i HE.out.symm, HU.out⟩
end Go.Proofs.YtcclepohmhdpbaaGreatDoor
