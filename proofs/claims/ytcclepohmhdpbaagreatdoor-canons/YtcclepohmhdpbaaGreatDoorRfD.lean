/- THE DOCUMENT's WALKS: clean. -/
import Derived.Test.YtcclepohmhdpbaaGreatDoorRfC
import Derived.Test.YtcclepohmhdpbaaGreatDoorClJ
namespace Go.Proofs.YtcclepohmhdpbaaGreatDoor
set_option linter.all false
open Go.RowKit Go.Deep

def tdG (r : Ring) (i j : Nat) : Bool := decide (Vd.ptAt r i = Vd.ptAt r j)
def tdF (r : Ring) (i : Nat) : Bool := Vd.anyI i (tdG r i)
theorem twiceD_F {r : Ring} {n : Nat} (h : r.length = n + 1) : Vd.twiceD r = Vd.anyI n (tdF r) := by unfold Vd.twiceD; rw [h]; rfl
def sdG (r : Ring) (n i j : Nat) : Bool := Vd.badK (Vd.nextD2 n i j) (Vd.common (Vd.ptAt r i) (Vd.ptAt r (i + 1)) (Vd.ptAt r j) (Vd.ptAt r (j + 1))).1
def sdF (r : Ring) (n i : Nat) : Bool := Vd.anyI i (sdG r n i)
theorem selfD_F {r : Ring} {n : Nat} (h : r.length = n + 1) : Vd.selfD r = Vd.anyI n (sdF r n) := by unfold Vd.selfD; rw [h]; rfl
theorem ptAt_of {r : Ring} {i : Nat} {p : Pnt} (h : r[i]? = some p) : Vd.ptAt r i = p := by unfold Vd.ptAt; rw [List.getD_eq_getElem?_getD, h]; rfl
theorem tdG_at {r : Ring} {i j : Nat} {a b c d : Int} (hi : r[i]? = some (a, b)) (hj : r[j]? = some (c, d)) : tdG r i j = (decide (a = c) && decide (b = d)) := by
  unfold tdG
  rw [ptAt_of hi, ptAt_of hj]
  by_cases h1 : a = c <;> by_cases h2 : b = d <;> simp [h1, h2]
theorem common_is {a b c d : Pnt} {k : Int} {x : Bool} (h : Vd.common a b c d = (k, x)) (ha : Vd.Cd a) (hb : Vd.Cd b) (hc : Vd.Cd c) (hd : Vd.Cd d) (w : World) :
    Calls Tryz.prog 165 #[ptV a, ptV b, ptV c, ptV d] w fun e w' => e = .returned (.tuple #[.int .i64 k, .bool x]) ∧ Up w w' := by
  have := common_any a b c d ha hb hc hd w; rwa [h] at this
theorem next_cases (n i j : Nat) : (j + 1 = i ∧ Vd.nextD2 n i j = true) ∨ (j + 1 ≠ i ∧ j = 0 ∧ i + 1 = n ∧ Vd.nextD2 n i j = true) ∨ (j + 1 ≠ i ∧ j = 0 ∧ i + 1 ≠ n ∧ Vd.nextD2 n i j = false) ∨ (j + 1 ≠ i ∧ j ≠ 0 ∧ Vd.nextD2 n i j = false) := by
  unfold Vd.nextD2
  by_cases h1 : j + 1 = i <;> by_cases h2 : j = 0 <;> by_cases h3 : i + 1 = n <;> simp [h1, h2, h3] <;> omega

set_option maxRecDepth 4000 in
set_option maxHeartbeats 8000000 in
theorem clean_any (v : Value) (r : Ring) (w : World) (hv : Rd1 w v r) (hr : r.length ≤ 1048576) (h1 : 1 ≤ r.length) (hc : Vd.CdR r) :
    Calls Tryz.prog 128 #[v] w fun e w' => e = .returned (.bool (Vd.cleanD r)) ∧ Up w w' := by
  obtain ⟨ao, cap, rfl, hm⟩ := hv
  have HM := hide hm
  have HC := hide hc
  obtain ⟨n, hn⟩ : ∃ n, r.length = n + 1 := ⟨r.length - 1, by omega⟩
  have HT := hide (twiceD_F hn)
  have HS := hide (selfD_F hn)
  have HN := hide hn
  rw [hn] at hr ⊢
  clear hm hc h1 hn
  have HTt : Hid (Vd.twiceD r = true → Vd.cleanD r = false) := fun h => by unfold Vd.cleanD; rw [h]; rfl
  have HSt : Hid (Vd.selfD r = true → Vd.cleanD r = false) := fun h => by unfold Vd.cleanD; rw [h]; simp
  have HF : Hid (Vd.twiceD r = false → Vd.selfD r = false → Vd.cleanD r = true) := fun h k => by unfold Vd.cleanD; rw [h, k]; rfl
  go_enter Tryz.func128, Tryz.ntmps128
  go_wp2
  go_loopw [4] (fun i wr => ∃ k : Nat, i = .int .i64 k ∧ k ≤ n ∧ Hid (Up w wr) ∧ Hid (Vd.anyI k (tdF r) = false)) (fun i _ => n - (intOf i).toNat)
  case atStart => exact ⟨0, rfl, Nat.zero_le _, Up.refl _, rfl⟩
  case round =>
    obtain ⟨k, rfl, hk, HU, HA⟩ := hrel
    by_cases hlt : k < n
    · obtain ⟨⟨ax, ay⟩, hp⟩ := Pl.some_of_lt (show k < r.length by have := HN.out; omega)
      obtain ⟨b, rfl, c0, c1⟩ := HM.out k _ hp
      have HP := hide hp
      have C0 := hide c0
      have C1 := hide c1
      clear c0 c1 hp
      go_wp2
      go_loopw [5] (fun j wr => ∃ q : Nat, j = .int .i64 q ∧ Hid (Up w wr) ∧ Hid (Vd.anyI q (tdG r k) = false) ∧ q ≤ k) (fun j _ => k - (intOf j).toNat)
      case atStart => exact ⟨0, by go_num, HU, rfl, by omega⟩
      case round =>
        clear HU
        obtain ⟨q, rfl, HU, HB, hq⟩ := hrel
        by_cases hlq : q < k
        · obtain ⟨⟨bx, bY⟩, hp2⟩ := Pl.some_of_lt (show q < r.length by have := HN.out; omega)
          obtain ⟨b', e', d0, d1⟩ := HM.out q _ hp2
          cases e'
          have f0 := HU.out.cell C0.out
          have f1 := HU.out.cell C1.out
          have g0 := HU.out.cell d0
          have g1 := HU.out.cell d1
          have HG := hide (tdG_at HP.out hp2)
          dsimp only at f0 f1 g0 g1
          have i1 : (0 : Int) ≤ (k : Int) := by omega
          have i2 : (k : Int) < (n : Int) + 1 := by omega
          have i3 : (0 : Int) ≤ (q : Int) := by omega
          have i4 : (q : Int) < (n : Int) + 1 := by omega
          clear d0 d1 hp2
          by_cases h1 : ax = bx
          · by_cases h2 : ay = bY
            · subst h1 h2
              have HGt : Hid (Vd.cleanD r = false) := by
                refine HTt.out ?_
                rw [HT.out]
                exact Vd.anyI_true (i := k) hlt (Vd.anyI_true (f := tdG r k) hlq (by rw [HG.out]; simp))
              go_wp2
              go_quiet (fail)
              go_wp2
              go_ret
              exact ⟨ret_b HGt.out.symm, HU.out.drewN _⟩
            · have HGf : Hid (tdG r k q = false) := by rw [HG.out]; simp [h2, Hid]
              subst h1
              have h2' := beq_eq_false_iff_ne.2 h2
              go_wp2
              go_quiet (fail)
              go_wp2
              go_roundw
              case rel => exact ⟨q + 1, by go_num, HU.out.drewN _, anyI_step HB.out HGf.out, by omega⟩
              case measure => simp [intOf]; omega
          · have HGf : Hid (tdG r k q = false) := by rw [HG.out]; simp [h1, Hid]
            have h1' := beq_eq_false_iff_ne.2 h1
            go_wp2
            go_quiet (fail)
            go_wp2
            go_roundw
            case rel => exact ⟨q + 1, by go_num, HU.out.drewN _, anyI_step HB.out HGf.out, by omega⟩
            case measure => simp [intOf]; omega
        · have hq2 : q = k := by omega
          subst hq2
          go_wp2
          go_roundw
          case rel => exact ⟨q + 1, by go_num, by omega, HU, anyI_step HA.out HB.out⟩
          case measure => simp [intOf]; omega
    · have hk2 : k = n := by omega
      subst hk2
      have HTf : Hid (Vd.twiceD r = false) := by rw [HT.out]; exact HA.out
      clear HA hlt
      go_wp2
      go_loopw [6] (fun i wq => ∃ j : Nat, i = .int .i64 j ∧ j ≤ k ∧ Hid (Up w wq) ∧ Hid (Vd.anyI j (sdF r k) = false)) (fun i _ => k - (intOf i).toNat)
      case atStart => exact ⟨0, rfl, Nat.zero_le _, HU, rfl⟩
      case round =>
        clear HU
        obtain ⟨j, rfl, hj, HU, HA⟩ := hrel
        by_cases hlt : j < k
        · obtain ⟨⟨ax, ay⟩, hpa⟩ := Pl.some_of_lt (show j < r.length by have := HN.out; omega)
          obtain ⟨⟨bx, bY⟩, hpb⟩ := Pl.some_of_lt (show j + 1 < r.length by have := HN.out; omega)
          obtain ⟨g, rfl, c0, c1⟩ := HM.out j _ hpa
          obtain ⟨g', e', d0, d1⟩ := HM.out (j + 1) _ hpb
          cases e'
          have HPa := hide hpa
          have HPb := hide hpb
          have C0 := hide c0
          have C1 := hide c1
          have D0 := hide d0
          have D1 := hide d1
          clear c0 c1 d0 d1 hpa hpb
          go_wp2
          go_loopw [7] (fun i wq => ∃ q : Nat, i = .int .i64 q ∧ q ≤ j ∧ Hid (Up w wq) ∧ Hid (Vd.anyI q (sdG r k j) = false)) (fun i _ => j - (intOf i).toNat)
          case atStart => exact ⟨0, rfl, Nat.zero_le _, HU, rfl⟩
          case round =>
            clear HU
            obtain ⟨q, rfl, hq, HU, HB⟩ := hrel
            by_cases hlq : q < j
            · obtain ⟨⟨cx, cy⟩, hpc⟩ := Pl.some_of_lt (show q < r.length by have := HN.out; omega)
              obtain ⟨⟨dx, dy⟩, hpd⟩ := Pl.some_of_lt (show q + 1 < r.length by have := HN.out; omega)
              obtain ⟨g', e', c0, c1⟩ := HM.out q _ hpc
              cases e'
              obtain ⟨g', e', d0, d1⟩ := HM.out (q + 1) _ hpd
              cases e'
              obtain ⟨M, X, hM⟩ : ∃ M X, Vd.common (ax, ay) (bx, bY) (cx, cy) (dx, dy) = (M, X) := ⟨_, _, rfl⟩
              have HG : Hid (sdG r k j q = Vd.badK (Vd.nextD2 k j q) M) := by
                unfold sdG; rw [ptAt_of HPa.out, ptAt_of HPb.out, ptAt_of hpc, ptAt_of hpd, hM]; exact rfl
              have ca := HC.out _ (Pl.mem_of_some HPa.out)
              have cb := HC.out _ (Pl.mem_of_some HPb.out)
              have cc := HC.out _ (Pl.mem_of_some hpc)
              have cd := HC.out _ (Pl.mem_of_some hpd)
              have HK := hide (fun w => common_is hM ca cb cc cd w)
              have s0 := cell_gr (HU.out.cell C0.out)
              have s1 := cell_gr (HU.out.cell C1.out)
              have s2 := cell_gr (HU.out.cell D0.out)
              have s3 := cell_gr (HU.out.cell D1.out)
              have t0 := cell_gr (HU.out.cell c0)
              have t1 := cell_gr (HU.out.cell c1)
              have t2 := cell_gr (HU.out.cell d0)
              have t3 := cell_gr (HU.out.cell d1)
              dsimp only at s0 s1 s2 s3 t0 t1 t2 t3
              have i1 : (0 : Int) ≤ (q : Int) := by omega
              have i2 : (q : Int) < (k : Int) + 1 := by omega
              have i3 : (q : Int) + 1 < (k : Int) + 1 := by omega
              have i4 : (0 : Int) ≤ (q : Int) + 1 := by omega
              have i5 : (0 : Int) ≤ (j : Int) := by omega
              have i6 : (j : Int) < (k : Int) + 1 := by omega
              have i7 : (j : Int) + 1 < (k : Int) + 1 := by omega
              have i8 : (0 : Int) ≤ (j : Int) + 1 := by omega
              have fin : Hid (sdG r k j q = true → Vd.cleanD r = false) := by
                intro h
                refine HSt.out ?_
                rw [HS.out]
                exact Vd.anyI_true hlt (Vd.anyI_true (f := sdG r k j) hlq h)
              have nc := next_cases k j q
              clear c0 c1 d0 d1 hpc hpd hM ca cb cc cd
              rcases nc with ⟨h1, hw⟩ | ⟨h1, h2, h3, hw⟩ | ⟨h1, h2, h3, hw⟩ | ⟨h1, h2, hw⟩
              all_goals
                rw [hw] at HG
                clear hw
                first
                | (have j1 : ((q : Int) + 1 == (j : Int)) = true := beq_iff_eq.2 (by omega))
                | (have j1 : ((q : Int) + 1 == (j : Int)) = false := beq_eq_false_iff_ne.2 (by omega)
                   first
                   | (have j2 : ((q : Int) == 0) = false := beq_eq_false_iff_ne.2 (by omega))
                   | (have j2 : ((q : Int) == 0) = true := beq_iff_eq.2 (by omega)
                      first
                      | (have j3 : ((j : Int) == (k : Int) - 1) = true := beq_iff_eq.2 (by omega))
                      | (have j3 : ((j : Int) == (k : Int) - 1) = false := beq_eq_false_iff_ne.2 (by omega))))
                try clear h3
                try clear h2
                try clear h1
                go_wp2_with fail
                refine wp_region_up (by kernel_rfl) (by kernel_rfl) ?_
                repeat (first | go_big_quiet_step ((go_at_call 165; exact Calls.up_of (HK.out _))))
                refine wpQuiet_nil ?_
                rintro w3 ⟨⟨_, u3⟩, rfl⟩
                have HU3 := hide (HU.out.trans u3)
                clear u3 s0 s1 s2 s3 t0 t1 t2 t3
                have HG1 : Hid (∀ b : Bool, M = (if b = true then 1 else 0) → Vd.badK b M = false) := fun b h => by cases b <;> simp [h, Vd.badK]
                have HG2 : Hid (∀ b : Bool, M ≠ (if b = true then 1 else 0) → Vd.badK b M = true) := fun b h => by cases b <;> simp [Vd.badK] <;> simpa using h
                first
                | (have HGx : Hid (sdG r k j q = Vd.badK true M) := HG
                   by_cases hM : M = 1
                   · have HGf := hide (HGx.out.trans (HG1.out true hM))
                     subst hM
                     clear HG1 HG2
                     go_wp2
                     go_roundw
                     case rel => exact ⟨q + 1, by go_num, by omega, HU3, anyI_step HB.out HGf.out⟩
                     case measure => simp [intOf]; omega
                   · have HGt := hide (fin.out (HGx.out.trans (HG2.out true hM)))
                     have hM' := beq_eq_false_iff_ne.2 hM
                     have hM2 := bne_iff_ne.2 hM
                     clear HG1 HG2
                     go_wp2
                     go_ret
                     exact ⟨ret_b HGt.out.symm, HU3.out⟩)
                | (have HGx : Hid (sdG r k j q = Vd.badK false M) := HG
                   by_cases hM : M = 0
                   · have HGf := hide (HGx.out.trans (HG1.out false hM))
                     subst hM
                     clear HG1 HG2
                     go_wp2
                     go_roundw
                     case rel => exact ⟨q + 1, by go_num, by omega, HU3, anyI_step HB.out HGf.out⟩
                     case measure => simp [intOf]; omega
                   · have HGt := hide (fin.out (HGx.out.trans (HG2.out false hM)))
                     have hM' := beq_eq_false_iff_ne.2 hM
                     have hM2 := bne_iff_ne.2 hM
                     clear HG1 HG2
                     go_wp2
                     go_ret
                     exact ⟨ret_b HGt.out.symm, HU3.out⟩)
            · have hq2 : q = j := by omega
              subst hq2
              go_wp2
              go_roundw
              case rel => exact ⟨q + 1, by go_num, by omega, HU, anyI_step HA.out HB.out⟩
              case measure => simp [intOf]; omega
        · have hj2 : j = k := by omega
          subst hj2
          have HR : Hid (Vd.cleanD r = true) := HF.out HTf.out (HS.out.trans HA.out)
          go_wp2
          go_ret
          exact ⟨ret_b HR.out.symm, HU.out⟩
end Go.Proofs.YtcclepohmhdpbaaGreatDoor
