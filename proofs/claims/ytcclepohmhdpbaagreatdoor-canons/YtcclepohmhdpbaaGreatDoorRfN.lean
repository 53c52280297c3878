/- THE DOCUMENT's WALKS: poly, the clause of the holes. -/
import Derived.Test.YtcclepohmhdpbaaGreatDoorRfM
namespace Go.Proofs.YtcclepohmhdpbaaGreatDoor
set_option linter.all false
open Go.RowKit Go.Deep

def dnG (l : Poly) (i j : Nat) : Bool := decide (j ≠ i) && !(Vd.allD (Vd.rAt l i) [Vd.rAt l j] (Vd.nestD j))
def dnF (l : Poly) (i : Nat) : Bool := decide (1 ≤ i) && Vd.anyI l.length (dnG l i)
theorem dnG_same (l : Poly) (i : Nat) : dnG l i i = false := by unfold dnG; simp
theorem dnG_zero {l : Poly} {i : Nat} (h : 0 ≠ i) {r o : Ring} (hr : l[i]? = some r) (ho : l[0]? = some o) : dnG l i 0 = !(Vd.allD r [o] 1) := by unfold dnG; rw [decide_eq_true h, rAt_some hr, rAt_some ho]; rfl
theorem dnG_at {l : Poly} {i j : Nat} (h : j ≠ i) (h0 : j ≠ 0) {r o : Ring} (hr : l[i]? = some r) (ho : l[j]? = some o) : dnG l i j = !(Vd.allD r [o] (-1)) := by unfold dnG Vd.nestD; rw [decide_eq_true h, rAt_some hr, rAt_some ho, if_neg h0]; rfl
theorem all_one {o : Nat} {v u : Value} {r s : Ring} {so : Int} {w : World} (hv : Rd1 w v r) (hu : Rdo o w u [s]) (hr : r.length ≤ 1048576) (hs : s.length ≤ 1048576) (hc : Vd.CdR r) (hc2 : Vd.CdR s) :
    Calls Tryz.prog 130 #[v, u, .int .i64 so] w fun e w' => e = .returned (.bool (Vd.allD r [s] so)) ∧ Up w w' :=
  all_any v u r s [] so w hv hu hr (by simp) (fun x hx => by rw [List.mem_singleton.1 hx]; exact hs) (by simp; exact hs) hc (fun x hx => by rw [List.mem_singleton.1 hx]; exact hc2)
set_option maxRecDepth 8000 in
set_option maxHeartbeats 8000000 in
theorem poly3_any (v : Value) (m : Mult) (p : Nat) (l : Poly) (w : World) (hv : Rc3 w v m) (hp : m[p]? = some l) (hz : PZ l) (hm : m.length ≤ 1048576) :
    Calls Tryz.prog 91 #[v, .int .i64 p, .int .i64 3] w fun e w' => e = .returned (.bool (!(Vd.anyI l.length (dnF l)))) ∧ Up w w' := by
  obtain ⟨mao, mc, rfl, hM⟩ := hv
  obtain ⟨mb, u, rfl, cu, ao, cap, rfl, hcap, hL⟩ := hM p l hp
  have HM := hide hL
  have HZ := hide hz
  have hl := hz.len
  have hpm := Pl.lt_of_some hp
  have i1 : (0 : Int) ≤ (p : Int) := by omega
  have i2 : (p : Int) < (m.length : Int) := by omega
  clear hM hL hz hp
  go_enter Tryz.func91, Tryz.ntmps91
  go_wp2
  clear cu
  go_loopw [9] (fun i wr => ∃ k : Nat, i = .int .i64 k ∧ k ≤ l.length ∧ Hid (Up w wr) ∧ Hid (Vd.anyI k (dnF l) = false)) (fun i _ => l.length - (intOf i).toNat)
  case atStart => exact ⟨0, rfl, Nat.zero_le _, Up.refl _, rfl⟩
  case round =>
    obtain ⟨k, rfl, hk, HU, HA⟩ := hrel
    by_cases hlt : k < l.length
    · obtain ⟨r, hr⟩ := Pl.some_of_lt hlt
      obtain ⟨b, y, rfl, cy, hy⟩ := HM.out k r hr
      have Hr := hide hr
      have Hy := hide hy
      have CY := hide cy
      have Hrm := hide (Pl.mem_of_some hr)
      have HF : Hid (dnF l k = (decide (1 ≤ k) && Vd.anyI l.length (dnG l k))) := rfl
      have Hb : Hid (r.length ≤ 1048576) := by have := HZ.out.ring r (Pl.mem_of_some hr); show _ ≤ _; omega
      have i3 : (0 : Int) ≤ (k : Int) := by omega
      have i4 : (k : Int) < (l.length : Int) := by omega
      clear hr cy hy
      go_wp2
      go_loopw [10, 11] (fun ok s wr => ∃ (q : Nat) (B : Bool), s = .int .i64 q ∧ ok = .bool B ∧ q ≤ l.length ∧ Hid (Up w wr) ∧ Hid ((decide (1 ≤ k) && Vd.anyI q (dnG l k)) = !B)) (fun _ s _ => l.length - (intOf s).toNat)
      case atStart => exact ⟨0, true, rfl, rfl, Nat.zero_le _, HU, by show (_ && Vd.anyI 0 _) = _; rw [Vd.anyI_zero, Bool.and_false]; rfl⟩
      case round =>
        clear HU
        obtain ⟨q, B, rfl, rfl, hq, HU, HB⟩ := hrel
        cases B
        · have HR : Hid (Vd.anyI l.length (dnF l) = true) := Vd.anyI_true hlt (by
            have := HB.out
            rw [HF.out]
            simp only [Bool.not_false, Bool.and_eq_true] at this ⊢
            exact ⟨this.1, anyI_more this.2 hq⟩)
          by_cases hlq : (q : Int) < (l.length : Int)
          all_goals
            go_wp2
            go_loopw [10, 12] (fun ok s wr => s = .int .i64 0 ∧ ok = .bool false ∧ Hid (Up w wr)) (fun _ _ _ => 0)
            case atStart => exact ⟨rfl, rfl, HU⟩
            case round =>
              clear HU
              obtain ⟨rfl, rfl, HU⟩ := hrel
              have hlm : (0 : Int) < (m.length : Int) := by omega
              go_wp2
              go_ret
              exact ⟨ret_b (by rw [HR.out]; rfl), HU.out⟩
        · by_cases hlq : q < l.length
          · have j1 : (q : Int) < (l.length : Int) := by omega
            have j0 : (0 : Int) ≤ (q : Int) := by omega
            by_cases hs : q = k
            · have hs' : ((q : Int) == (k : Int)) = true := beq_iff_eq.2 (by omega)
              have HBn : Hid ((decide (1 ≤ k) && Vd.anyI (q + 1) (dnG l k)) = !true) := by
                have e0 : dnG l k q = false := by rw [hs]; exact dnG_same l k
                rw [Vd.anyI_succ, e0, Bool.or_false]; exact HB.out
              clear hs
              go_wp2
              go_roundw
              case rel => exact ⟨q + 1, true, by go_num, rfl, by omega, HU, HBn⟩
              case measure => simp [intOf]; omega
            · have hs' : ((q : Int) == (k : Int)) = false := beq_eq_false_iff_ne.2 (by omega)
              by_cases hk1 : 1 ≤ k
              · have i5 : (0 : Int) < (k : Int) := by omega
                have HB0 : Hid (Vd.anyI q (dnG l k) = false) := by
                  have := HB.out; rw [decide_eq_true hk1, Bool.true_and] at this; exact this
                obtain ⟨o, ho⟩ := Pl.some_of_lt hlq
                have Hb2 : Hid (o.length ≤ 1048576) := by have := HZ.out.ring o (Pl.mem_of_some ho); show _ ≤ _; omega
                have HCo := hide (HZ.out.cd o (Pl.mem_of_some ho))
                have c1 := cell_gr (HU.out.cell CY.out)
                by_cases h0 : q = 0
                · subst h0
                  have HG := hide (dnG_zero hs Hr.out ho)
                  have HK : Hid (∀ g : Gr wr, Calls Tryz.prog 130 #[y, .slice (some ⟨b, 0, none⟩) 1 cap, .int .i64 1] g.v fun e w' => e = .returned (.bool (Vd.allD r [o] 1)) ∧ Up g.v w') := fun g =>
                    all_one ((Hy.out.up HU.out).up g.up) (((Rc2.one HM.out ho cap).up HU.out).up g.up) Hb.out Hb2.out (HZ.out.cd r Hrm.out) HCo.out
                  generalize Vd.allD r [o] 1 = X at *
                  clear hs ho HB
                  have j2 : (1 : Int) ≤ (cap : Int) := by omega
                  go_wp2_with fail
                  refine wp_region_up (by kernel_rfl) (by kernel_rfl) ?_
                  repeat (first | go_big_quiet_step ((go_at_call 130; exact Calls.up_of (HK.out _))))
                  refine wpQuiet_nil ?_
                  rintro w3 ⟨⟨_, u3⟩, rfl⟩
                  have HU3 := hide (HU.out.trans u3)
                  have HBn : Hid ((decide (1 ≤ k) && Vd.anyI (0 + 1) (dnG l k)) = !X) := by rw [decide_eq_true hk1, Vd.anyI_succ, HB0.out, HG.out]; exact rfl
                  clear u3 c1 HK
                  go_wp2
                  go_roundw
                  case rel => exact ⟨1, X, by go_num, rfl, by omega, HU3, HBn⟩
                  case measure => simp [intOf]; omega
                · have h0' : ((q : Int) == 0) = false := beq_eq_false_iff_ne.2 (by omega)
                  have HG := hide (dnG_at hs h0 Hr.out ho)
                  have HK : Hid (∀ g : Gr wr, Calls Tryz.prog 130 #[y, .slice (some ⟨b, q, none⟩) 1 (cap - q), .int .i64 (-1)] g.v fun e w' => e = .returned (.bool (Vd.allD r [o] (-1))) ∧ Up g.v w') := fun g =>
                    all_one ((Hy.out.up HU.out).up g.up) (((Rc2.one HM.out ho (cap - q)).up HU.out).up g.up) Hb.out Hb2.out (HZ.out.cd r Hrm.out) HCo.out
                  generalize Vd.allD r [o] (-1) = X at *
                  clear hs ho HB h0
                  have j2 : (q : Int) + 1 ≤ (cap : Int) := by omega
                  have j3 : (q : Int) ≤ (q : Int) + 1 := by omega
                  have j4 : IntKind.i64.wrap ((q : Int) + 1) = (q : Int) + 1 := wrap_id (by omega) (by omega)
                  have j5 : wrap64 ((q : Int) + 1) = (q : Int) + 1 := w64 (by omega) (by omega)
                  go_wp2_with fail
                  refine wp_region_up (by kernel_rfl) (by kernel_rfl) ?_
                  repeat (first | go_big_quiet_step ((go_at_call 130; exact Calls.up_of (HK.out _))))
                  refine wpQuiet_nil ?_
                  rintro w3 ⟨⟨_, u3⟩, rfl⟩
                  have HU3 := hide (HU.out.trans u3)
                  have HBn : Hid ((decide (1 ≤ k) && Vd.anyI (q + 1) (dnG l k)) = !X) := by rw [decide_eq_true hk1, Vd.anyI_succ, HB0.out, HG.out]; exact rfl
                  clear u3 c1 HK j4 j5
                  go_wp2
                  go_roundw
                  case rel => exact ⟨q + 1, X, by go_num, rfl, by omega, HU3, HBn⟩
                  case measure => simp [intOf]; omega
              · have i5 : ¬ (0 : Int) < (k : Int) := by omega
                have HBn : Hid ((decide (1 ≤ k) && Vd.anyI (q + 1) (dnG l k)) = !true) := by rw [decide_eq_false hk1]; exact rfl
                clear hs
                go_wp2
                go_roundw
                case rel => exact ⟨q + 1, true, by go_num, rfl, by omega, HU, HBn⟩
                case measure => simp [intOf]; omega
          · have j1 : ¬ (q : Int) < (l.length : Int) := by omega
            have hq2 : q = l.length := by omega
            have HA2 : Hid (Vd.anyI (k + 1) (dnF l) = false) := anyI_step HA.out (by rw [HF.out, ← hq2]; exact HB.out)
            clear hq2
            go_wp2
            go_loopw [10, 12] (fun ok s wr => s = .int .i64 0 ∧ ok = .bool true ∧ Hid (Up w wr)) (fun _ _ _ => 0)
            case atStart => exact ⟨rfl, rfl, HU⟩
            case round =>
              clear HU
              obtain ⟨rfl, rfl, HU⟩ := hrel
              have hlm : (0 : Int) < (m.length : Int) := by omega
              go_wp2
              go_roundw
              case rel => exact ⟨k + 1, by go_num, by omega, HU, HA2⟩
              case measure => simp [intOf]; omega
    · have hk2 : k = l.length := by omega
      subst hk2
      go_wp2
      go_ret
      exact ⟨ret_b (by rw [HA.out]; rfl), HU.out⟩
end Go.Proofs.YtcclepohmhdpbaaGreatDoor
