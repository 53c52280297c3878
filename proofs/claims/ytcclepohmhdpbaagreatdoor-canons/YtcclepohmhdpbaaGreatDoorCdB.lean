/- THE DOCUMENT's WALKS: corners. -/
import Derived.Test.YtcclepohmhdpbaaGreatDoorCdA
import Derived.Test.YtcclepohmhdpbaaGreatDoorLists
namespace Go.Proofs.YtcclepohmhdpbaaGreatDoor
set_option linter.all false
open Go.RowKit Go.Deep

def cuK (r : Ring) (k : Nat) : Ring := ((List.range k).filter (Vd.turnD r)).map (Vd.ptAt r)
theorem cuK_succ (r : Ring) (k : Nat) : cuK r (k + 1) = cuK r k ++ (if Vd.turnD r k = true then [Vd.ptAt r k] else []) := by
  unfold cuK
  rw [List.range_succ, List.filter_append, List.map_append]
  congr 1
  by_cases h : Vd.turnD r k = true
  · rw [if_pos h]; simp [h]
  · rw [if_neg h]; simp [h]
theorem cuK_len (r : Ring) (k : Nat) : (cuK r k).length ≤ k := by
  unfold cuK
  rw [List.length_map]
  have := List.length_filter_le (Vd.turnD r) (List.range k)
  simpa using this
theorem cuK_all (r : Ring) : Vd.cornersU r = cuK r (r.length - 1) := rfl
theorem ptAt_is {r : Ring} {i : Nat} {p : Pnt} (h : r[i]? = some p) : Vd.ptAt r i = p := by unfold Vd.ptAt; rw [List.getD_eq_getElem?_getD, h]; rfl
/-! ### turned round in its place -/
def rvK (L : Ring) (q : Nat) : Ring := (List.range L.length).map (fun j => if j < q ∨ L.length ≤ j + q then Vd.ptAt L (L.length - 1 - j) else Vd.ptAt L j)
theorem rvK_len (L : Ring) (q : Nat) : (rvK L q).length = L.length := by unfold rvK; simp
theorem rvK_get (L : Ring) (q j : Nat) (hj : j < L.length) : (rvK L q)[j]? = some (if j < q ∨ L.length ≤ j + q then Vd.ptAt L (L.length - 1 - j) else Vd.ptAt L j) := by
  unfold rvK; rw [List.getElem?_map, List.getElem?_range hj]; rfl
theorem rvK_zero (L : Ring) : rvK L 0 = L := by
  apply List.ext_getElem?
  intro j
  by_cases hj : j < L.length
  · rw [rvK_get L 0 j hj, if_neg (by omega)]
    obtain ⟨p, hp⟩ := Pl.some_of_lt hj
    rw [ptAt_is hp, hp]
  · rw [List.getElem?_eq_none (by rw [rvK_len]; omega), List.getElem?_eq_none (by omega)]
theorem rvK_all (L : Ring) : rvK L (L.length / 2) = L.reverse := by
  apply List.ext_getElem?
  intro j
  by_cases hj : j < L.length
  · rw [rvK_get L _ j hj, List.getElem?_reverse hj]
    obtain ⟨p, hp⟩ := Pl.some_of_lt (show L.length - 1 - j < L.length by omega)
    rw [hp, ptAt_is hp]
    by_cases h : j < L.length / 2 ∨ L.length ≤ j + L.length / 2
    · rw [if_pos h]
    · rw [if_neg h]
      have e : L.length - 1 - j = j := by omega
      rw [e] at hp
      rw [ptAt_is hp]
  · rw [List.getElem?_eq_none (by rw [rvK_len]; omega), List.getElem?_eq_none (by rw [List.length_reverse]; omega)]
theorem rvK_succ (L : Ring) (q : Nat) (hq : q < L.length / 2) : rvK L (q + 1) = ((rvK L q).set q (Vd.ptAt L (L.length - 1 - q))).set (L.length - 1 - q) (Vd.ptAt L q) := by
  apply List.ext_getElem?
  intro j
  by_cases hj : j < L.length
  · rw [rvK_get L _ j hj, List.getElem?_set, List.getElem?_set, List.length_set, rvK_len, rvK_get L q j hj]
    by_cases e1 : L.length - 1 - q = j
    · rw [if_pos e1, if_pos (by omega), if_pos (by omega)]; congr 2; omega
    · rw [if_neg e1]
      by_cases e2 : q = j
      · rw [if_pos e2, if_pos (by omega), if_pos (by omega)]; congr 2; omega
      · rw [if_neg e2]
        by_cases h : j < q ∨ L.length ≤ j + q
        · rw [if_pos h, if_pos (by omega)]
        · rw [if_neg h, if_neg (by omega)]
  · rw [List.getElem?_eq_none (by rw [rvK_len]; omega), List.getElem?_eq_none (by rw [List.length_set, List.length_set, rvK_len]; omega)]
theorem neb0 {a b : Bool} (h : (!(a == b)) = false) : a = b := by revert h; cases a <;> cases b <;> decide
theorem neb1 {a b : Bool} (h : (!(a == b)) = true) : ¬ a = b := by revert h; cases a <;> cases b <;> decide
theorem own_put2 {w : World} {base : Nat} {e : TypeId} {g n cap : Nat} {l : Ring} (h : w.ownsRow base e 2 (.slice (some ⟨g, 0, none⟩) n cap) n (flat l)) (i : Nat) (p : Pnt) : ((w.setCell ⟨g, i * 2, none⟩ (.int .i64 p.1)).setCell ⟨g, i * 2 + 1, none⟩ (.int .i64 p.2)).ownsRow base e 2 (.slice (some ⟨g, 0, none⟩) n cap) n (flat (l.set i p)) := by
  rw [flat_set]
  exact ((h.stored _ _).1.stored _ _).1
set_option maxRecDepth 8000 in
set_option maxHeartbeats 8000000 in
theorem cornersU_any (v : Value) (r : Ring) (left : Bool) (w : World) (hv : Rd1 w v r) (hr : r.length ≤ 1048576) (h2 : 2 ≤ r.length) (hc : Vd.CdR r) :
    Calls Tryz.prog 94 #[v, .bool left] w fun e w' => ∃ u, e = .returned u ∧ Up w w' ∧ w'.ownsRow w.heap.size 32 2 u (Vd.cornersD r left).length (flat (Vd.cornersD r left)) := by
  have HV := hide hv
  obtain ⟨ao, cap, rfl, hm⟩ := hv
  have HM := hide hm
  have HC := hide hc
  obtain ⟨n, hn⟩ : ∃ n, r.length = n + 1 := ⟨r.length - 1, by omega⟩
  have HSk := hide (fun k => cuK_succ r k)
  have HLn := hide (fun k => cuK_len r k)
  have HN := hide hn
  have j0 : IntKind.i64.wrap ((r.length : Int) - 1) = (n : Int) := by rw [wrap_id (by omega) (by omega)]; omega
  have j00 : (r.length : Int) - 1 = (n : Int) := by omega
  clear hm hc hn
  go_enter Tryz.func94, Tryz.ntmps94
  go_wp2
  clear j0 j00
  go_loopw [6, 7] (fun sv i wr => ∃ (k : Nat) (u : Value), i = .int .i64 k ∧ u = sv ∧ k ≤ n ∧ Hid (Up w wr) ∧ Hid (wr.ownsRow w.heap.size 32 2 u (cuK r k).length (flat (cuK r k)))) (fun _ i _ => n - (intOf i).toNat)
  case atStart => exact ⟨0, _, rfl, rfl, Nat.zero_le _, Up.refl _, World.ownsRow_nil _ _ _ _⟩
  case round =>
    obtain ⟨k, u, rfl, rfl, hk, HU, HO⟩ := hrel
    by_cases hlt : k < n
    · have hrl : r.length = n + 1 := HN.out
      have hPl : (k + n - 1) % n < r.length := by have := Nat.mod_lt (k + n - 1) (show n > 0 by omega); omega
      obtain ⟨⟨px, py⟩, hp⟩ := Pl.some_of_lt hPl
      obtain ⟨⟨qx, qy⟩, hq⟩ := Pl.some_of_lt (show k < r.length by omega)
      obtain ⟨⟨nx, ny⟩, hx⟩ := Pl.some_of_lt (show k + 1 < r.length by omega)
      obtain ⟨b, rfl, c0, c1⟩ := HM.out _ _ hp
      obtain ⟨b', e', d0, d1⟩ := HM.out _ _ hq
      cases e'
      obtain ⟨b', e', x0, x1⟩ := HM.out _ _ hx
      cases e'
      have Cp := hide (HC.out _ (Pl.mem_of_some hp))
      have Cq := hide (HC.out _ (Pl.mem_of_some hq))
      have Cx := hide (HC.out _ (Pl.mem_of_some hx))
      have hB1 := hide (sub_bdd Cp.out Cq.out)
      have hB2 := hide (sub_bdd Cq.out Cx.out)
      have hPb := hide (bdd_mono (cd_bdd Cp.out) (B := 4611686018427387903) (by omega))
      have hQb := hide (bdd_mono (cd_bdd Cq.out) (B := 4611686018427387903) (by omega))
      have hXb := hide (bdd_mono (cd_bdd Cx.out) (B := 4611686018427387903) (by omega))
      have HT : Hid (Vd.turnD r k = decide (timesP (subP (px, py) (qx, qy)) (subP (qx, qy) (nx, ny)) ≠ 0)) := by
        unfold Vd.turnD
        rw [hrl, show n + 1 - 1 = n from rfl, ptAt_is hp, ptAt_is hq, ptAt_is hx]; exact rfl
      have HSk1 := hide (HSk.out k)
      rw [HT.out, ptAt_is hq] at HSk1
      obtain ⟨P, hP⟩ : ∃ P, (k + n - 1) % n = P := ⟨_, rfl⟩
      rw [hP] at c0 c1 hPl
      have i1 : (0 : Int) ≤ (k : Int) := by omega
      have i2 : (k : Int) < (n : Int) := by omega
      have i3 : (k : Int) < (r.length : Int) := by omega
      have i4 : (k : Int) + 1 < (r.length : Int) := by omega
      have i5 : (0 : Int) ≤ (k : Int) + 1 := by omega
      have i6 : IntKind.i64.wrap ((k : Int) + 1) = (k : Int) + 1 := wrap_id (by omega) (by omega)
      have i7 : IntKind.i64.wrap ((k : Int) + (n : Int)) = (k : Int) + (n : Int) := wrap_id (by omega) (by omega)
      have i8 : IntKind.i64.wrap ((k : Int) + (n : Int) - 1) = (k : Int) + (n : Int) - 1 := wrap_id (by omega) (by omega)
      have i9 : ((k : Int) + (n : Int) - 1).tmod (n : Int) = (P : Int) := by
        rw [← hP, show (k : Int) + (n : Int) - 1 = ((k + n - 1 : Nat) : Int) by omega]; exact rfl
      have k1 : (0 : Int) ≤ (P : Int) := by omega
      have k2 : (P : Int) < (r.length : Int) := by omega
      have k3 : ¬ n = 0 := by omega
      have f0 := HU.out.cell c0
      have f1 := HU.out.cell c1
      have D0 := hide (HU.out.cell d0)
      have D1 := hide (HU.out.cell d1)
      have X0 := hide (HU.out.cell x0)
      have X1 := hide (HU.out.cell x1)
      have g0 := D0.out
      have g1 := D1.out
      try dsimp only at f0 f1 g0 g1
      have hn1 : n ≤ 1048576 := by omega
      clear hp hq hx c0 c1 d0 d1 x0 x1 hP hrl
      go_upto_region 6 with fail
      go_cut [8] (fun sl wc => ∃ S : Nat, sl = .pointer (some ⟨S, 0, none⟩) ∧ Hid (Up wr wc) ∧ Hid (VRow wc S 155 [.int .i64 (qx - px), .int .i64 (qy - py)]))
      case first =>
        have f0a := fun o => ((Up.refl wr).alloc o).cell f0
        have f1a := fun o => ((Up.refl wr).alloc o).cell f1
        have g0a := fun o => ((Up.refl wr).alloc o).cell g0
        have g1a := fun o => ((Up.refl wr).alloc o).cell g1
        try dsimp only at f0a f1a g0a g1a
        go_region_with ((go_at_call 133; refine (way2_any (px, py) (qx, qy) hPb.out hQb.out _).mono ?_; rintro e w2 ⟨rfl, hz⟩; simp only [ptV, subP]; (first | (have hrw := hide ((VRow.drewN (VRow.new wr [.int .i64 0, .int .i64 0] 155) 1).up hz); have t0 := hrw.out.cell (i := 0) rfl; have t1 := hrw.out.cell (i := 1) rfl; have tf := fun i => hrw.out.frozen i) | skip); replace hz := hide hz))
        all_goals
          go_wp2
          go_meet
          case rel =>
            first
            | exact ⟨w2.heap.size, rfl, Up.alloc ((Up.refl wr).drew.trans hz.out) _, VRow.new w2 _ _⟩
            | exact ⟨wr.heap.size, rfl, Up.setCell (Up.setCell (((Up.refl wr).alloc _).drew.trans hz.out) (Nat.le_refl _) _) (Nat.le_refl _) _, row_set2 hrw.out _ _⟩
      case rest =>
        obtain ⟨S, rfl, HUs, RS⟩ := hcut
        obtain ⟨wo, hwo⟩ : ∃ wo : World, wo = wc := ⟨_, rfl⟩
        subst hwo
        clear f0 f1 g0 g1
        have HUo := hide (HU.out.trans HUs.out)
        have f0 := HUs.out.cell D0.out
        have f1 := HUs.out.cell D1.out
        have g0 := HUs.out.cell X0.out
        have g1 := HUs.out.cell X1.out
        have f0a := fun o => ((Up.refl wo).alloc o).cell f0
        have f1a := fun o => ((Up.refl wo).alloc o).cell f1
        have g0a := fun o => ((Up.refl wo).alloc o).cell g0
        have g1a := fun o => ((Up.refl wo).alloc o).cell g1
        try dsimp only at f0 f1 g0 g1 f0a f1a g0a g1a
        go_upto_region 7 with fail
        go_cut [9] (fun sl wc => ∃ S2 : Nat, sl = .pointer (some ⟨S2, 0, none⟩) ∧ Hid (Up wo wc) ∧ Hid (VRow wc S2 155 [.int .i64 (nx - qx), .int .i64 (ny - qy)]))
        case first =>
          go_region_with ((go_at_call 133; refine (way2_any (qx, qy) (nx, ny) hQb.out hXb.out _).mono ?_; rintro e w2 ⟨rfl, hz⟩; simp only [ptV, subP]; (first | (have hrw := hide ((VRow.drewN (VRow.new wo [.int .i64 0, .int .i64 0] 155) 1).up hz); have t0 := hrw.out.cell (i := 0) rfl; have t1 := hrw.out.cell (i := 1) rfl; have tf := fun i => hrw.out.frozen i) | skip); replace hz := hide hz))
          all_goals
            go_wp2
            go_meet
            case rel =>
              first
              | exact ⟨w2.heap.size, rfl, Up.alloc ((Up.refl wo).drew.trans hz.out) _, VRow.new w2 _ _⟩
              | exact ⟨wo.heap.size, rfl, Up.setCell (Up.setCell (((Up.refl wo).alloc _).drew.trans hz.out) (Nat.le_refl _) _) (Nat.le_refl _) _, row_set2 hrw.out _ _⟩
        case rest =>
          obtain ⟨S2, rfl, HUs2, RS2⟩ := hcut
          clear f0 f1 g0 g1 f0a f1a g0a g1a
          have R1 := hide (RS.out.up HUs2.out)
          have s0 := R1.out.cell (i := 0) rfl
          have s1 := R1.out.cell (i := 1) rfl
          have s2 := RS2.out.cell (i := 0) rfl
          have s3 := RS2.out.cell (i := 1) rfl
          have HKt := hide (times_any (subP (px, py) (qx, qy)) (subP (qx, qy) (nx, ny)) hB1.out hB2.out (by omega) (by omega) (by omega) wc)
          generalize timesP (subP (px, py) (qx, qy)) (subP (qx, qy) (nx, ny)) = X at *
          simp only [ptV, subP] at HKt
          go_wp2_with fail
          refine HKt.out.mono ?_
          rintro e w5 ⟨rfl, hz5⟩
          have HUA := hide (HUs.out.trans (HUs2.out.trans hz5))
          have HU5 := hide (HU.out.trans HUA.out)
          clear hz5 s0 s1 s2 s3 HKt
          by_cases hX : X = 0
          · have HO2 : Hid (World.ownsRow w5 w.heap.size 32 2 u (cuK r (k + 1)).length (flat (cuK r (k + 1)))) := by
              rw [HSk1.out, hX]; simp only [ne_eq, not_true_eq_false, decide_false, Bool.false_eq_true, if_false, List.append_nil]; exact own_up HO.out HUA.out
            subst hX
            go_wp2
            go_roundw
            case rel => exact ⟨k + 1, _, by go_num, rfl, by omega, HU5, HO2⟩
            case measure => simp [intOf]; omega
          · have hX1 := bne_iff_ne.2 hX
            have hX2 := beq_eq_false_iff_ne.2 hX
            have g0 := HUA.out.cell D0.out
            have g1 := HUA.out.cell D1.out
            try dsimp only at g0 g1
            have HOA : Hid (∀ o, (w5.alloc o).ownsRow w.heap.size 32 2 u (cuK r k).length (flat (cuK r k))) := fun o => (own_up HO.out HUA.out).alloc o
            have hb : Hid ((cuK r k).length ≤ 1073741824) := by have := HLn.out k; show _ ≤ _; omega
            have hsz : Hid (w.heap.size ≤ w5.heap.size) := HU5.out.size
            go_wp2_with (at_builtin; refine wpList_app el_pts rfl (.tmp 49) (.tmp 54) rfl w.heap.size _ _ _ (by rfl) (HOA.out _) w5.heap.size [.int .i64 qx, .int .i64 qy] (by rfl) rfl (heap_alloc_new w5 _) (by intro x hx; simp at hx; rcases hx with rfl | rfl <;> rfl) hb.out (by simp; have := hsz.out; omega) ?_; intro g cap w6 hown5 hg5 hat5 hlt5; have HO5 := hide hown5; have HU6 : Hid (Up w w6) := Fr.up (S := fun _ => False) (((Fr.of_up HU5.out).alloc _).grown hg5 fun x hx => .inr (own_lt HO.out hx).1) (fun _ _ h => h); clear hown5 hg5 hat5 hlt5 g0 g1)
            go_roundw
            case rel => exact ⟨k + 1, _, by go_num, rfl, by omega, HU6, by rw [HSk1.out]; simp only [hX, ne_eq, not_false_eq_true, decide_true, if_true]; rw [flat_append, List.length_append]; exact HO5⟩
            case measure => simp [intOf]; omega
    · have hk2 : k = n := by omega
      subst hk2
      have i9 : ¬ (k : Int) < (k : Int) := by omega
      have HR2 := hide (HV.out.up HU.out)
      have HCU : Hid (cuK r k = Vd.cornersU r) := by rw [cuK_all, HN.out]; exact rfl
      have hlen : Hid ((Vd.cornersU r).length ≤ 1048576) := by rw [← HCU.out]; have h1 := HLn.out k; have h2 := HN.out; show _ ≤ _; omega
      rw [HCU.out] at HO
      have h1 : 1 ≤ r.length := by omega
      have HCD : Hid (∀ l, Vd.cornersD r l = if decide (0 < Vd.twiceA (Vd.ptAt r 0) r) = l then Vd.cornersU r else (Vd.cornersU r).reverse) := fun _ => rfl
      have hTw := hide (twice_any _ r wr HR2.out hr h1 HC.out)
      generalize Vd.twiceA (Vd.ptAt r 0) r = T at *
      generalize Vd.cornersU r = L at *
      obtain ⟨ao2, cap2, rfl⟩ := own_len HO.out
      have hL := hlen.out
      go_wp2_with fail
      refine hTw.out.mono ?_
      rintro e w2 ⟨rfl, hz⟩
      have HU2 := hide (HU.out.trans hz)
      have HO2 := hide (own_up HO.out hz)
      clear hz hTw
      go_wp2
      · rename_i hB
        have HB : Hid (Vd.cornersD r left = L.reverse) := (HCD.out left).trans (if_neg (neb1 hB))
        clear hB
        go_loopw [11] (fun i wr => ∃ q : Nat, i = .int .i64 q ∧ q ≤ L.length / 2 ∧ Hid (Up w wr) ∧ Hid (wr.ownsRow w.heap.size 32 2 (.slice ao2 L.length cap2) L.length (flat (rvK L q)))) (fun i _ => L.length / 2 - (intOf i).toNat)
        case atStart => exact ⟨0, rfl, Nat.zero_le _, HU2, by rw [rvK_zero]; exact HO2⟩
        case round =>
          obtain ⟨q, rfl, hq, HUq, HOq⟩ := hrel
          have j1 : ((L.length : Int)).tdiv 2 = ((L.length / 2 : Nat) : Int) := rfl
          by_cases hlq : q < L.length / 2
          · have j2 : (q : Int) < ((L.length / 2 : Nat) : Int) := by omega
            obtain ⟨g, cap3, e3, hcell⟩ := own_cell HOq.out (by omega)
            cases e3
            obtain ⟨⟨ax, ay⟩, ha⟩ := Pl.some_of_lt (show q < L.length by omega)
            obtain ⟨⟨bx, by'⟩, hb⟩ := Pl.some_of_lt (show L.length - 1 - q < L.length by omega)
            have hga : (rvK L q)[q]? = some (ax, ay) := by rw [rvK_get L q q (by omega), if_neg (by omega), ptAt_is ha]
            have hgb : (rvK L q)[L.length - 1 - q]? = some (bx, by') := by rw [rvK_get L q _ (by omega), if_neg (by omega), ptAt_is hb]
            have HS : Hid (rvK L (q + 1) = ((rvK L q).set q (bx, by')).set (L.length - 1 - q) (ax, ay)) := by rw [rvK_succ L q hlq, ptAt_is ha, ptAt_is hb]; exact rfl
            obtain ⟨z, hz⟩ : ∃ z, L.length - 1 - q = z := ⟨_, rfl⟩
            rw [hz] at HS hgb
            have c0 := hcell _ _ (flat_at _ _ _ hga).1
            have c1 := hcell _ _ (flat_at _ _ _ hga).2
            have D0 := hide (hcell _ _ (flat_at _ _ _ hgb).1)
            have D1 := hide (hcell _ _ (flat_at _ _ _ hgb).2)
            try dsimp only at c0 c1 D0 D1
            have i1 : (0 : Int) ≤ (q : Int) := by omega
            have i2 : (q : Int) < (L.length : Int) := by omega
            have i3 : IntKind.i64.wrap ((L.length : Int) - 1) = (L.length : Int) - 1 := wrap_id (by omega) (by omega)
            have i4 : IntKind.i64.wrap ((L.length : Int) - 1 - (q : Int)) = (z : Int) := by rw [wrap_id (by omega) (by omega)]; omega
            have i5 : (0 : Int) ≤ (z : Int) := by omega
            have i6 : (z : Int) < (L.length : Int) := by omega
            have hgl := hide (own_lt HOq.out (g := g) rfl)
            have hqz : Hid (q < z) := by show _ < _; omega
            have C0 := hide c0
            have C1 := hide c1
            clear ha hb hga hgb hcell hz
            go_upto_region 15 with fail
            go_cut [12] (fun sl wc => ∃ S : Nat, sl = .pointer (some ⟨S, 0, none⟩) ∧ Hid (Up wr wc) ∧ Hid (wr.heap.size ≤ S) ∧ Hid (VRow wc S 32 [.int .i64 ax, .int .i64 ay]))
            case first =>
              go_wp2
              go_meet
              case rel => exact ⟨wr.heap.size, rfl, Up.alloc (Up.refl _) _, Nat.le_refl _, VRow.new _ _ _⟩
            case rest =>
              obtain ⟨S, rfl, HUc, hS, RS⟩ := hcut
              clear c0 c1
              have hgS : Hid (S ≠ g) := by have h1 := hS.out; have h2 := hgl.out.2; show _ ≠ _; omega
              have HOc := hide (own_up HOq.out HUc.out)
              have d0 := HUc.out.cell D0.out
              have d1 := HUc.out.cell D1.out
              have fz : ∀ i, wc.frozen? ⟨g, i, none⟩ = false := fun i => own_frozen HOc.out rfl i
              have s0 : ∀ i j u1 u2, ((wc.setCell ⟨g, i, none⟩ u1).setCell ⟨g, j, none⟩ u2).cell? ⟨S, 0, none⟩ = some (.int .i64 ax) := fun i j u1 u2 => by
                rw [World.cell?_setCell_other _ _ _ _ (by simp; exact fun e => (hgS.out e.symm).elim), World.cell?_setCell_other _ _ _ _ (by simp; exact fun e => (hgS.out e.symm).elim)]; exact RS.out.cell (i := 0) rfl
              have s1 : ∀ i j u1 u2, ((wc.setCell ⟨g, i, none⟩ u1).setCell ⟨g, j, none⟩ u2).cell? ⟨S, 1, none⟩ = some (.int .i64 ay) := fun i j u1 u2 => by
                rw [World.cell?_setCell_other _ _ _ _ (by simp; exact fun e => (hgS.out e.symm).elim), World.cell?_setCell_other _ _ _ _ (by simp; exact fun e => (hgS.out e.symm).elim)]; exact RS.out.cell (i := 1) rfl
              have b0 := HUc.out.cell C0.out
              have b1 : ∀ u1, (wc.setCell ⟨g, q * 2, none⟩ u1).cell? ⟨g, q * 2 + 1, none⟩ = some (.int .i64 ay) := fun u1 => by
                rw [World.cell?_setCell_other _ _ _ _ (by simp)]; exact HUc.out.cell C1.out
              have b2 : ∀ u1 u2, ((wc.setCell ⟨g, q * 2, none⟩ u1).setCell ⟨g, q * 2 + 1, none⟩ u2).cell? ⟨g, z * 2, none⟩ = some (.int .i64 bx) := fun u1 u2 => by
                have := hqz.out
                rw [World.cell?_setCell_other _ _ _ _ (by simp <;> omega), World.cell?_setCell_other _ _ _ _ (by simp <;> omega)]; exact HUc.out.cell D0.out
              have b3 : ∀ u1 u2 u3, (((wc.setCell ⟨g, q * 2, none⟩ u1).setCell ⟨g, q * 2 + 1, none⟩ u2).setCell ⟨g, z * 2, none⟩ u3).cell? ⟨g, z * 2 + 1, none⟩ = some (.int .i64 by') := fun u1 u2 u3 => by
                have := hqz.out
                rw [World.cell?_setCell_other _ _ _ _ (by simp), World.cell?_setCell_other _ _ _ _ (by simp <;> omega), World.cell?_setCell_other _ _ _ _ (by simp <;> omega)]; exact HUc.out.cell D1.out
              have z1 : ∀ i u1 a1, (wc.setCell a1 u1).frozen? ⟨g, i, none⟩ = false := fun i u1 a1 => by rw [World.frozen?_setCell]; exact fz i
              have z2 : ∀ i u1 a1 u2 a2, ((wc.setCell a1 u1).setCell a2 u2).frozen? ⟨g, i, none⟩ = false := fun i u1 a1 u2 a2 => by rw [World.frozen?_setCell]; exact z1 i u1 a1
              have z3 : ∀ i u1 a1 u2 a2 u3 a3, (((wc.setCell a1 u1).setCell a2 u2).setCell a3 u3).frozen? ⟨g, i, none⟩ = false := fun i u1 a1 u2 a2 u3 a3 => by rw [World.frozen?_setCell]; exact z2 i u1 a1 u2 a2
              try dsimp only at d0 d1 b0
              go_wp2
              go_roundw
              case rel => exact ⟨q + 1, by go_num, by omega, Up.setCell (Up.setCell (Up.setCell (Up.setCell (HUq.out.trans HUc.out) hgl.out.1 _) hgl.out.1 _) hgl.out.1 _) hgl.out.1 _, by rw [HS.out]; exact own_put2 (own_put2 HOc.out q (bx, by')) z (ax, ay)⟩
              case measure => simp [intOf]; omega
          · have hq2 : q = L.length / 2 := by omega
            have j2 : ¬ (q : Int) < ((L.length / 2 : Nat) : Int) := by omega
            have HOr : Hid (wr.ownsRow w.heap.size 32 2 (.slice ao2 L.length cap2) L.reverse.length (flat L.reverse)) := by
              rw [List.length_reverse, ← rvK_all, ← hq2]; exact HOq.out
            rw [← HB.out] at HOr
            clear hq2
            go_wp2
            go_ret
            exact ⟨_, rfl, HUq.out, HOr.out⟩
      · rename_i hB
        have HB : Hid (Vd.cornersD r left = L) := (HCD.out left).trans (if_pos (neb0 hB))
        go_ret
        exact ⟨_, rfl, HU2.out, by rw [HB.out]; exact HO2.out⟩
end Go.Proofs.YtcclepohmhdpbaaGreatDoor
