/- THE DOCUMENT's WALKS: twice. -/
import Derived.Test.YtcclepohmhdpbaaGreatDoorRfC
import Derived.Test.YtcclepohmhdpbaaGreatDoorRfH
import Derived.Deep.RegionWith
import Derived.Deep.DeepCutAuto
namespace Go.Proofs.YtcclepohmhdpbaaGreatDoor
set_option linter.all false
open Go.RowKit Go.Deep

def twcA (p0 : Pnt) (s : Vd.Seg) : Int := timesP (subP p0 s.1) (subP p0 s.2)
theorem twiceA_G (p0 : Pnt) (r : Ring) : Vd.twiceA p0 r = Vd.sumI (twcA p0) (Vd.segs r) := rfl
theorem times_bd {u v : Pnt} (hu : Bdd 65536 u) (hv : Bdd 65536 v) : -8589934592 ≤ timesP u v ∧ timesP u v ≤ 8589934592 := by
  have key : ∀ x y : Int, -65536 ≤ x → x ≤ 65536 → -65536 ≤ y → y ≤ 65536 → -4294967296 ≤ x * y ∧ x * y ≤ 4294967296 := fun x y a b c d => by
    have h1 : 0 ≤ (65536 - x) * (65536 + y) := Int.mul_nonneg (by omega) (by omega)
    have h2 : 0 ≤ (65536 + x) * (65536 - y) := Int.mul_nonneg (by omega) (by omega)
    have h3 : 0 ≤ (65536 - x) * (65536 - y) := Int.mul_nonneg (by omega) (by omega)
    have h4 : 0 ≤ (65536 + x) * (65536 + y) := Int.mul_nonneg (by omega) (by omega)
    have e1 : (65536 - x) * (65536 + y) = 4294967296 + 65536 * y - 65536 * x - x * y := by grind
    have e2 : (65536 + x) * (65536 - y) = 4294967296 - 65536 * y + 65536 * x - x * y := by grind
    have e3 : (65536 - x) * (65536 - y) = 4294967296 - 65536 * y - 65536 * x + x * y := by grind
    have e4 : (65536 + x) * (65536 + y) = 4294967296 + 65536 * y + 65536 * x + x * y := by grind
    omega
  unfold Bdd at hu hv
  unfold timesP
  have a := key u.1 v.2 (by omega) (by omega) (by omega) (by omega)
  have b := key u.2 v.1 (by omega) (by omega) (by omega) (by omega)
  omega
theorem sum_take {α : Type} (f : α → Int) {l : List α} {k : Nat} {x : α} (h : l[k]? = some x) : Vd.sumI f (l.take (k + 1)) = Vd.sumI f (l.take k) + f x := by
  rw [Pl.take_one h, Vd.sumI_append, Vd.sumI_cons, Vd.sumI_nil]; omega
set_option maxRecDepth 8000 in
set_option maxHeartbeats 8000000 in
theorem twice_any (v : Value) (r : Ring) (w : World) (hv : Rd1 w v r) (hr : r.length ≤ 1048576) (h1 : 1 ≤ r.length) (hc : Vd.CdR r) :
    Calls Tryz.prog 135 #[v] w fun e w' => e = .returned (.int .i64 (Vd.twiceA (Vd.ptAt r 0) r)) ∧ Up w w' := by
  obtain ⟨ao, cap, rfl, hm⟩ := hv
  have HM := hide hm
  have HC := hide hc
  obtain ⟨⟨ox, oy⟩, ho⟩ := Pl.some_of_lt (show 0 < r.length by omega)
  have HD : Hid (Vd.twiceA (Vd.ptAt r 0) r = Vd.sumI (twcA (ox, oy)) (Vd.segs r)) := by
    have e : Vd.ptAt r 0 = (ox, oy) := by unfold Vd.ptAt; rw [List.getD_eq_getElem?_getD, ho]; rfl
    rw [e]; exact rfl
  obtain ⟨b0, rfl, o0, o1⟩ := hm 0 _ ho
  have O0 := hide o0
  have O1 := hide o1
  have Co := hide (hc _ (Pl.mem_of_some ho))
  clear hm hc ho o0 o1
  go_enter Tryz.func135, Tryz.ntmps135
  go_wp2
  go_loopw [3, 4] (fun nv i wr => ∃ (k : Nat) (n : Int), i = .int .i64 k ∧ nv = .int .i64 n ∧ k ≤ r.length ∧ Hid (Up w wr) ∧ Hid (n = Vd.sumI (twcA (ox, oy)) ((Vd.segs r).take k)) ∧ -(k * 8589934592 : Int) ≤ n ∧ n ≤ k * 8589934592) (fun _ i _ => r.length - (intOf i).toNat)
  case atStart => exact ⟨0, 0, rfl, rfl, Nat.zero_le _, Up.refl _, rfl, by omega, by omega⟩
  case round =>
    obtain ⟨k, n, rfl, rfl, hk, HU, HN, hn1, hn2⟩ := hrel
    by_cases hlt : k + 1 < r.length
    · obtain ⟨⟨px, py⟩, hp⟩ := Pl.some_of_lt (show k < r.length by omega)
      obtain ⟨⟨qx, qy⟩, hq⟩ := Pl.some_of_lt hlt
      obtain ⟨b, e', c0, c1⟩ := HM.out k _ hp
      cases e'
      obtain ⟨b', e', d0, d1⟩ := HM.out (k + 1) _ hq
      cases e'
      have Cp := hide (HC.out _ (Pl.mem_of_some hp))
      have Cq := hide (HC.out _ (Pl.mem_of_some hq))
      have HS := hide (sum_take (twcA (ox, oy)) (Vd.segs_at hp hq))
      have hB1 := hide (sub_bdd Co.out Cp.out)
      have hB2 := hide (sub_bdd Co.out Cq.out)
      have hTb := times_bd hB1.out hB2.out
      have i1 : (0 : Int) ≤ (k : Int) := by omega
      have i2 : (k : Int) < (r.length : Int) := by omega
      have i3 : (k : Int) + 1 < (r.length : Int) := by omega
      have i4 : IntKind.i64.wrap ((k : Int) + 1) = (k : Int) + 1 := wrap_id (by omega) (by omega)
      have i5 : (0 : Int) ≤ (k : Int) + 1 := by omega
      have i6 : (0 : Int) < (r.length : Int) := by omega
      have f0 := HU.out.cell c0
      have f1 := HU.out.cell c1
      have g0 := HU.out.cell O0.out
      have g1 := HU.out.cell O1.out
      have D0 := hide (HU.out.cell d0)
      have D1 := hide (HU.out.cell d1)
      have HX : Hid (twcA (ox, oy) ((px, py), (qx, qy)) = timesP (subP (ox, oy) (px, py)) (subP (ox, oy) (qx, qy))) := rfl
      try dsimp only at f0 f1 g0 g1
      clear hp hq c0 c1 d0 d1
      have hOb := hide (bdd_mono (cd_bdd Co.out) (B := 4611686018427387903) (by omega))
      have hPb := hide (bdd_mono (cd_bdd Cp.out) (B := 4611686018427387903) (by omega))
      have hQb := hide (bdd_mono (cd_bdd Cq.out) (B := 4611686018427387903) (by omega))
      have f0a := fun o => ((Up.refl wr).alloc o).cell f0
      have f1a := fun o => ((Up.refl wr).alloc o).cell f1
      have g0a := fun o => ((Up.refl wr).alloc o).cell g0
      have g1a := fun o => ((Up.refl wr).alloc o).cell g1
      try dsimp only at f0a f1a g0a g1a
      go_upto_region 5 with fail
      go_cut [5] (fun sl wc => ∃ S : Nat, sl = .pointer (some ⟨S, 0, none⟩) ∧ Hid (Up wr wc) ∧ Hid (VRow wc S 155 [.int .i64 (px - ox), .int .i64 (py - oy)]))
      case first =>
        go_region_with ((go_at_call 133; refine (way2_any (ox, oy) (px, py) hOb.out hPb.out _).mono ?_; rintro e w2 ⟨rfl, hz⟩; simp only [ptV, subP]; (first | (have hrw := hide ((VRow.drewN (VRow.new wr [.int .i64 0, .int .i64 0] 155) 1).up hz); have t0 := hrw.out.cell (i := 0) rfl; have t1 := hrw.out.cell (i := 1) rfl; have tf := fun i => hrw.out.frozen i) | skip); replace hz := hide hz))
        all_goals
          go_wp2
          go_meet
          case rel =>
            first
            | exact ⟨w2.heap.size, rfl, Up.alloc ((Up.refl wr).drew.trans hz.out) _, VRow.new w2 _ _⟩
            | exact ⟨wr.heap.size, rfl, Up.setCell (Up.setCell (((Up.refl wr).alloc _).drew.trans hz.out) (Nat.le_refl _) _) (Nat.le_refl _) _, row_set2 hrw.out _ _⟩
      case rest =>
        obtain ⟨S, rfl, HUs, RS⟩ := hcut
        obtain ⟨wo, hwo⟩ : ∃ wo : World, wo = wc := ⟨_, rfl⟩
        subst hwo
        clear f0 f1 g0 g1 f0a f1a g0a g1a
        have HUo := hide (HU.out.trans HUs.out)
        have g0 := HUo.out.cell O0.out
        have g1 := HUo.out.cell O1.out
        have f0 := HUs.out.cell D0.out
        have f1 := HUs.out.cell D1.out
        have f0a := fun o => ((Up.refl wo).alloc o).cell f0
        have f1a := fun o => ((Up.refl wo).alloc o).cell f1
        have g0a := fun o => ((Up.refl wo).alloc o).cell g0
        have g1a := fun o => ((Up.refl wo).alloc o).cell g1
        try dsimp only at f0 f1 g0 g1 f0a f1a g0a g1a
        go_upto_region 6 with fail
        go_cut [6] (fun sl wc => ∃ S2 : Nat, sl = .pointer (some ⟨S2, 0, none⟩) ∧ Hid (Up wo wc) ∧ Hid (VRow wc S2 155 [.int .i64 (qx - ox), .int .i64 (qy - oy)]))
        case first =>
          go_region_with ((go_at_call 133; refine (way2_any (ox, oy) (qx, qy) hOb.out hQb.out _).mono ?_; rintro e w2 ⟨rfl, hz⟩; simp only [ptV, subP]; (first | (have hrw := hide ((VRow.drewN (VRow.new wo [.int .i64 0, .int .i64 0] 155) 1).up hz); have t0 := hrw.out.cell (i := 0) rfl; have t1 := hrw.out.cell (i := 1) rfl; have tf := fun i => hrw.out.frozen i) | skip); replace hz := hide hz))
          all_goals
            go_wp2
            go_meet
            case rel =>
              first
              | exact ⟨w2.heap.size, rfl, Up.alloc ((Up.refl wo).drew.trans hz.out) _, VRow.new w2 _ _⟩
              | exact ⟨wo.heap.size, rfl, Up.setCell (Up.setCell (((Up.refl wo).alloc _).drew.trans hz.out) (Nat.le_refl _) _) (Nat.le_refl _) _, row_set2 hrw.out _ _⟩
        case rest =>
          obtain ⟨S2, rfl, HUs2, RS2⟩ := hcut
          clear f0 f1 g0 g1 f0a f1a g0a g1a
          have R1 := hide (RS.out.up HUs2.out)
          have s0 := R1.out.cell (i := 0) rfl
          have s1 := R1.out.cell (i := 1) rfl
          have s2 := RS2.out.cell (i := 0) rfl
          have s3 := RS2.out.cell (i := 1) rfl
          have HKt := hide (times_any (subP (ox, oy) (px, py)) (subP (ox, oy) (qx, qy)) hB1.out hB2.out (by omega) (by omega) (by omega) wc)
          generalize timesP (subP (ox, oy) (px, py)) (subP (ox, oy) (qx, qy)) = X at *
          simp only [ptV, subP] at HKt
          go_wp2_with fail
          refine HKt.out.mono ?_
          rintro e w5 ⟨rfl, hz5⟩
          have HU5 := hide (HUo.out.trans (HUs2.out.trans hz5))
          have HS2 : Hid (n + X = Vd.sumI (twcA (ox, oy)) ((Vd.segs r).take (k + 1))) := by rw [HS.out, ← HN.out, HX.out]; exact rfl
          have j1 : IntKind.i64.wrap (n + X) = n + X := wrap_id (by omega) (by omega)
          have j2 : wrap64 (n + X) = n + X := w64 (by omega) (by omega)
          clear hz5 s0 s1 s2 s3 HKt
          go_wp2
          go_roundw
          case rel => exact ⟨k + 1, n + X, by go_num, rfl, by omega, HU5, HS2, by omega, by omega⟩
          case measure => simp [intOf]; omega
    · have HR : Hid (n = Vd.twiceA (Vd.ptAt r 0) r) := by
        rw [HD.out, HN.out]
        by_cases g : k = r.length
        · rw [List.take_of_length_le (by rw [Vd.segs_len]; omega)]; exact rfl
        · rw [List.take_of_length_le (by rw [Vd.segs_len]; omega)]; exact rfl
      have i4 : IntKind.i64.wrap ((k : Int) + 1) = (k : Int) + 1 := wrap_id (by omega) (by omega)
      have i3 : ¬ (k : Int) + 1 < (r.length : Int) := by omega
      go_wp2
      go_ret
      exact ⟨ret_i HR.out, HU.out⟩
end Go.Proofs.YtcclepohmhdpbaaGreatDoor
