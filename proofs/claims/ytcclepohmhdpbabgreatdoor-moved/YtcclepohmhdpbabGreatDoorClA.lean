import Derived.Test.YtcclepohmhdpbabGreatDoorPnI
namespace Go.Proofs.YtcclepohmhdpbabGreatDoor
set_option linter.all false
open Go.RowKit Go.Deep
theorem anyI_step {n : Nat} {f : Nat → Bool} (h : Vd.anyI n f = false) (hf : f n = false) : Vd.anyI (n + 1) f = false := by rw [Vd.anyI_succ, h, hf]; rfl
theorem anyI_none {n : Nat} {f : Nat → Bool} (h : ∀ i, i < n → f i = false) : Vd.anyI n f = false := by
  induction n with
  | zero => rfl
  | succ n ih => rw [Vd.anyI_succ, ih fun i hi => h i (by omega), h n (by omega)]; rfl
def twG (r : Ring) (i j : Nat) : Bool := decide (i < j) && decide (r[i]? = r[j]?)
def twF (r : Ring) (i : Nat) : Bool := decide (1 ≤ i) && Vd.anyI r.length (twG r i)
theorem twice_F (r : Ring) : Vd.twice r = Vd.anyI r.length (twF r) := rfl
theorem twG_at {r : Ring} {i j : Nat} (h : i < j) {a b c d : Int} (hi : r[i]? = some (a, b)) (hj : r[j]? = some (c, d)) : twG r i j = (decide (a = c) && decide (b = d)) := by
  unfold twG
  rw [decide_eq_true h, hi, hj, Bool.true_and]
  by_cases h1 : a = c <;> by_cases h2 : b = d <;> simp [h1, h2]
theorem twG_le {r : Ring} {i j : Nat} (h : j ≤ i) : twG r i j = false := by unfold twG; rw [decide_eq_false (by omega)]; rfl
set_option maxHeartbeats 4000000 in
theorem hasTwice_any (v : Value) (r : Ring) (w : World) (hv : Rd1 w v r) (hr : r.length ≤ 1048576) :
    Calls Tryz.prog 92 #[v] w fun e w' => e = .returned (.bool (Vd.twice r)) ∧ Up w w' := by
  obtain ⟨ao, cap, rfl, hm⟩ := hv
  have HM := hide hm
  have HT := hide (twice_F r)
  clear hm
  go_enter Tryz.func92, Tryz.ntmps92
  go_wp2
  go_loopw [3] (fun i wr => ∃ k : Nat, i = .int .i64 (k + 1 : Nat) ∧ k ≤ r.length ∧ Hid (Up w wr) ∧ Hid (Vd.anyI (k + 1) (twF r) = false)) (fun i _ => r.length + 1 - (intOf i).toNat)
  case atStart => exact ⟨0, rfl, Nat.zero_le _, Up.refl _, rfl⟩
  case round =>
    obtain ⟨k, rfl, hk, HU, HA⟩ := hrel
    by_cases hlt : k + 1 < r.length
    · obtain ⟨⟨ax, ay⟩, hp⟩ := Pl.some_of_lt hlt
      obtain ⟨b, rfl, c0, c1⟩ := HM.out (k + 1) _ hp
      have HP := hide hp
      have C0 := hide c0
      have C1 := hide c1
      clear c0 c1 hp
      go_wp2
      go_loopw [4] (fun j wr => ∃ q : Nat, j = .int .i64 (k + 1 + 1 + q : Nat) ∧ Hid (Up w wr) ∧ Hid (Vd.anyI (k + 1 + 1 + q) (twG r (k + 1)) = false) ∧ k + 1 + 1 + q ≤ r.length) (fun j _ => r.length - (intOf j).toNat)
      case atStart => exact ⟨0, by go_num, HU, anyI_none fun i hi => twG_le (by omega), by omega⟩
      case round =>
        clear HU
        obtain ⟨q, rfl, HU, HB, hq⟩ := hrel
        by_cases hlq : k + 1 + 1 + q < r.length
        · obtain ⟨⟨bx, bY⟩, hp2⟩ := Pl.some_of_lt hlq
          obtain ⟨b', e', d0, d1⟩ := HM.out (k + 1 + 1 + q) _ hp2
          cases e'
          have f0 := HU.out.cell C0.out
          have f1 := HU.out.cell C1.out
          have g0 := HU.out.cell d0
          have g1 := HU.out.cell d1
          have HG := hide (twG_at (show k + 1 < k + 1 + 1 + q by omega) HP.out hp2)
          dsimp only at f0 f1 g0 g1
          have i1 : (0 : Int) ≤ (k : Int) + 1 := by omega
          have i2 : (k : Int) + 1 < (r.length : Int) := by omega
          have i3 : (0 : Int) ≤ (k : Int) + 1 + 1 + (q : Int) := by omega
          have i4 : (k : Int) + 1 + 1 + (q : Int) < (r.length : Int) := by omega
          clear d0 d1 hp2
          by_cases h1 : ax = bx
          · by_cases h2 : ay = bY
            · subst h1 h2
              have HGt : Hid (Vd.twice r = true) := by
                rw [HT.out]
                refine Vd.anyI_true (i := k + 1) hlt ?_
                unfold twF
                rw [decide_eq_true (by omega), Bool.true_and]
                exact Vd.anyI_true hlq (by rw [HG.out]; simp)
              go_wp2
              go_quiet (fail)
              go_wp2
              go_ret
              exact ⟨ret_b HGt.out.symm, HU.out.drewN _⟩
            · have HGf : Hid (twG r (k + 1) (k + 1 + 1 + q) = false) := by rw [HG.out]; simp [h2, Hid]
              subst h1
              have h2' := beq_eq_false_iff_ne.2 h2
              go_wp2
              go_quiet (fail)
              go_wp2
              go_roundw
              case rel => exact ⟨q + 1, by go_num, HU.out.drewN _, anyI_step HB.out HGf.out, by omega⟩
              case measure => simp [intOf]; omega
          · have HGf : Hid (twG r (k + 1) (k + 1 + 1 + q) = false) := by rw [HG.out]; simp [h1, Hid]
            have h1' := beq_eq_false_iff_ne.2 h1
            go_wp2
            go_quiet (fail)
            go_wp2
            go_roundw
            case rel => exact ⟨q + 1, by go_num, HU.out.drewN _, anyI_step HB.out HGf.out, by omega⟩
            case measure => simp [intOf]; omega
        · have hq2 : k + 1 + 1 + q = r.length := by omega
          have HFf : Hid (twF r (k + 1) = false) := by
            unfold twF
            have := HB.out
            rw [hq2] at this
            rw [this]; simp [Hid]
          go_wp2
          go_roundw
          case rel => exact ⟨k + 1, by go_num, by omega, HU, anyI_step HA.out HFf.out⟩
          case measure => simp [intOf]; omega
    · have HR : Hid (Vd.twice r = false) := by
        rw [HT.out]
        by_cases h0 : r.length = 0
        · rw [h0]; exact rfl
        · have := HA.out
          by_cases e : k + 1 = r.length
          · rw [← e]; exact this
          · have e2 : k = r.length := by omega
            subst e2
            rw [Vd.anyI_succ, Bool.or_eq_false_iff] at this
            exact this.1
      go_wp2
      go_ret
      exact ⟨ret_b HR.out.symm, HU.out⟩
end Go.Proofs.YtcclepohmhdpbabGreatDoor
