/- THE DOCUMENT's WALKS: poly, the clauses of the rings. -/
import Derived.Test.YtcclepohmhdpbaaGreatDoorRfG
import Derived.Test.YtcclepohmhdpbaaGreatDoorRfJ
import Derived.Test.YtcclepohmhdpbaaGreatDoorClJ
import Derived.Test.YtcclepohmhdpbaaGreatDoorInv
namespace Go.Proofs.YtcclepohmhdpbaaGreatDoor
set_option linter.all false
open Go.RowKit Go.Deep

theorem Rc2.one {w : World} {b : Nat} {l : Poly} (h : ∀ i r, l[i]? = some r → ∃ b' u, some (⟨b, 0, none⟩ : Addr) = some ⟨b', 0, none⟩ ∧ w.cell? ⟨b', i, none⟩ = some u ∧ Rd1 w u r) {i : Nat} {r : Ring} (hi : l[i]? = some r) (c : Nat) : Rdo i w (.slice (some ⟨b, i, none⟩) 1 c) [r] := by
  refine ⟨_, c, rfl, fun j x hx => ?_⟩
  cases j with
  | zero =>
    simp at hx; subst hx
    obtain ⟨b', u, e, cu, q⟩ := h i r hi
    cases e
    exact ⟨b, u, rfl, cu, q⟩
  | succ j => simp at hx
/-- What a polygon of a set is, for poly. -/
structure PZ (l : Poly) : Prop where
  len : l.length ≤ 1048576
  ring : ∀ r ∈ l, r.length ≤ 1048575
  flat : l.flatten.length ≤ 1048575
  cd : Vd.CdL l
  shut : ∀ r ∈ l, Vd.Shut r
  ne : l ≠ []
def dcF (l : Poly) (i : Nat) : Bool := !(Vd.cleanD (Vd.rAt l i))
theorem any_rAt (l : Poly) (f : Ring → Bool) : l.any f = Vd.anyI l.length fun i => f (Vd.rAt l i) := by
  apply Vd.bool_iff
  rw [List.any_eq_true, Vd.anyI_iff]
  constructor
  · rintro ⟨r, hr, h⟩
    obtain ⟨i, hi⟩ := List.getElem?_of_mem hr
    exact ⟨i, Pl.lt_of_some hi, by rw [rAt_some hi]; exact h⟩
  · rintro ⟨i, hi, h⟩; exact ⟨_, Vd.rAt_mem hi, h⟩

set_option maxRecDepth 8000 in
set_option maxHeartbeats 8000000 in
theorem poly1_any (v : Value) (m : Mult) (p : Nat) (l : Poly) (w : World) (hv : Rc3 w v m) (hp : m[p]? = some l) (hz : PZ l) (hm : m.length ≤ 1048576) :
    Calls Tryz.prog 91 #[v, .int .i64 p, .int .i64 1] w fun e w' => e = .returned (.bool (!(Vd.anyI l.length (dcF l)))) ∧ Up w w' := by
  obtain ⟨mao, mc, rfl, hM⟩ := hv
  obtain ⟨mb, u, rfl, cu, ao, cap, rfl, hcap, hL⟩ := hM p l hp
  have HM := hide hL
  have HZ := hide hz
  have hl := hz.len
  have hpm := Pl.lt_of_some hp
  have i1 : (0 : Int) ≤ (p : Int) := by omega
  have i2 : (p : Int) < (m.length : Int) := by omega
  clear hM hL hz hp
  go_enter Tryz.func91, Tryz.ntmps91
  go_wp2
  clear cu
  go_loopw [9] (fun i wr => ∃ k : Nat, i = .int .i64 k ∧ k ≤ l.length ∧ Hid (Up w wr) ∧ Hid (Vd.anyI k (dcF l) = false)) (fun i _ => l.length - (intOf i).toNat)
  case atStart => exact ⟨0, rfl, Nat.zero_le _, Up.refl _, rfl⟩
  case round =>
    obtain ⟨k, rfl, hk, HU, HA⟩ := hrel
    by_cases hlt : k < l.length
    · obtain ⟨r, hr⟩ := Pl.some_of_lt hlt
      obtain ⟨b, y, rfl, cy, hy⟩ := HM.out k r hr
      have Hy := hide (hy.up HU.out)
      have cy2 := HU.out.cell cy
      have Hrm := hide (Pl.mem_of_some hr)
      have HF : Hid (dcF l k = !(Vd.cleanD r)) := by unfold dcF; rw [rAt_some hr]; exact rfl
      have Hb : Hid (r.length ≤ 1048576 ∧ 1 ≤ r.length) := ⟨by have := HZ.out.ring r (Pl.mem_of_some hr); omega, by have := (HZ.out.shut r (Pl.mem_of_some hr)).1; omega⟩
      have i3 : (0 : Int) ≤ (k : Int) := by omega
      have i4 : (k : Int) < (l.length : Int) := by omega
      clear hr cy hy
      go_wp2_with fail
      refine (clean_any _ r _ Hy.out Hb.out.1 Hb.out.2 (HZ.out.cd r Hrm.out)).mono ?_
      rintro e w2 ⟨rfl, hz2⟩
      have HU2 := hide (HU.out.trans hz2)
      generalize Vd.cleanD r = B at *
      clear hz2 cy2
      go_wp2
      go_loopw [10, 11] (fun ok s wr => ∃ q : Nat, s = .int .i64 q ∧ ok = .bool B ∧ q ≤ l.length ∧ Hid (Up w wr)) (fun _ s _ => l.length - (intOf s).toNat)
      case atStart => exact ⟨0, rfl, rfl, Nat.zero_le _, HU2⟩
      case round =>
        clear HU HU2
        obtain ⟨q, rfl, rfl, hq, HU⟩ := hrel
        cases B
        · have HR : Hid (Vd.anyI l.length (dcF l) = true) := Vd.anyI_true hlt HF.out
          by_cases hlq : (q : Int) < (l.length : Int)
          all_goals
            go_wp2
            go_loopw [10, 12] (fun ok s wr => s = .int .i64 0 ∧ ok = .bool false ∧ Hid (Up w wr)) (fun _ _ _ => 0)
            case atStart => exact ⟨rfl, rfl, HU⟩
            case round =>
              clear HU
              obtain ⟨rfl, rfl, HU⟩ := hrel
              have hlm : (0 : Int) < (m.length : Int) := by omega
              go_wp2
              go_ret
              exact ⟨ret_b (by rw [HR.out]; rfl), HU.out⟩
        · by_cases hlq : q < l.length
          · have j1 : (q : Int) < (l.length : Int) := by omega
            by_cases hs : q = k
            · subst hs
              go_wp2
              go_roundw
              case rel => exact ⟨q + 1, by go_num, rfl, by omega, HU⟩
              case measure => simp [intOf]; omega
            · have hs' : ((q : Int) == (k : Int)) = false := beq_eq_false_iff_ne.2 (by omega)
              go_wp2
              go_roundw
              case rel => exact ⟨q + 1, by go_num, rfl, by omega, HU⟩
              case measure => simp [intOf]; omega
          · have j1 : ¬ (q : Int) < (l.length : Int) := by omega
            have HA2 := hide (anyI_step HA.out HF.out)
            go_wp2
            go_loopw [10, 12] (fun ok s wr => s = .int .i64 0 ∧ ok = .bool true ∧ Hid (Up w wr)) (fun _ _ _ => 0)
            case atStart => exact ⟨rfl, rfl, HU⟩
            case round =>
              clear HU
              obtain ⟨rfl, rfl, HU⟩ := hrel
              have hlm : (0 : Int) < (m.length : Int) := by omega
              go_wp2
              go_roundw
              case rel => exact ⟨k + 1, by go_num, by omega, HU, HA2⟩
              case measure => simp [intOf]; omega
    · have hk2 : k = l.length := by omega
      subst hk2
      go_wp2
      go_ret
      exact ⟨ret_b (by rw [HA.out]; rfl), HU.out⟩

/-! ### two rings -/
def dpG (l : Poly) (i j : Nat) : Bool := decide (j ≠ i) && !(Vd.pointsD (Vd.rAt l i) (Vd.rAt l j))
def dpF (l : Poly) (i : Nat) : Bool := Vd.anyI l.length (dpG l i)
theorem dpG_same (l : Poly) (i : Nat) : dpG l i i = false := by unfold dpG; simp
theorem dpG_at {l : Poly} {i j : Nat} (h : j ≠ i) {r o : Ring} (hr : l[i]? = some r) (ho : l[j]? = some o) : dpG l i j = !(Vd.pointsD r o) := by unfold dpG; rw [decide_eq_true h, rAt_some hr, rAt_some ho]; rfl
theorem anyI_more {n q : Nat} {f : Nat → Bool} (h : Vd.anyI q f = true) (hq : q ≤ n) : Vd.anyI n f = true := by
  obtain ⟨i, hi, hf⟩ := Vd.anyI_iff.1 h
  exact Vd.anyI_true (by omega) hf
set_option maxRecDepth 8000 in
set_option maxHeartbeats 8000000 in
theorem poly2_any (v : Value) (m : Mult) (p : Nat) (l : Poly) (w : World) (hv : Rc3 w v m) (hp : m[p]? = some l) (hz : PZ l) (hm : m.length ≤ 1048576) :
    Calls Tryz.prog 91 #[v, .int .i64 p, .int .i64 2] w fun e w' => e = .returned (.bool (!(Vd.anyI l.length (dpF l)))) ∧ Up w w' := by
  obtain ⟨mao, mc, rfl, hM⟩ := hv
  obtain ⟨mb, u, rfl, cu, ao, cap, rfl, hcap, hL⟩ := hM p l hp
  have HM := hide hL
  have HZ := hide hz
  have hl := hz.len
  have hpm := Pl.lt_of_some hp
  have i1 : (0 : Int) ≤ (p : Int) := by omega
  have i2 : (p : Int) < (m.length : Int) := by omega
  clear hM hL hz hp
  go_enter Tryz.func91, Tryz.ntmps91
  go_wp2
  clear cu
  go_loopw [9] (fun i wr => ∃ k : Nat, i = .int .i64 k ∧ k ≤ l.length ∧ Hid (Up w wr) ∧ Hid (Vd.anyI k (dpF l) = false)) (fun i _ => l.length - (intOf i).toNat)
  case atStart => exact ⟨0, rfl, Nat.zero_le _, Up.refl _, rfl⟩
  case round =>
    obtain ⟨k, rfl, hk, HU, HA⟩ := hrel
    by_cases hlt : k < l.length
    · obtain ⟨r, hr⟩ := Pl.some_of_lt hlt
      obtain ⟨b, y, rfl, cy, hy⟩ := HM.out k r hr
      have Hr := hide hr
      have Hy := hide hy
      have CY := hide cy
      have Hrm := hide (Pl.mem_of_some hr)
      have HF : Hid (dpF l k = Vd.anyI l.length (dpG l k)) := rfl
      have Hb : Hid (r.length ≤ 1048576) := by have := HZ.out.ring r (Pl.mem_of_some hr); show _ ≤ _; omega
      have i3 : (0 : Int) ≤ (k : Int) := by omega
      have i4 : (k : Int) < (l.length : Int) := by omega
      clear hr cy hy
      go_wp2
      go_loopw [10, 11] (fun ok s wr => ∃ (q : Nat) (B : Bool), s = .int .i64 q ∧ ok = .bool B ∧ q ≤ l.length ∧ Hid (Up w wr) ∧ Hid (Vd.anyI q (dpG l k) = !B)) (fun _ s _ => l.length - (intOf s).toNat)
      case atStart => exact ⟨0, true, rfl, rfl, Nat.zero_le _, HU, rfl⟩
      case round =>
        clear HU
        obtain ⟨q, B, rfl, rfl, hq, HU, HB⟩ := hrel
        cases B
        · have HR : Hid (Vd.anyI l.length (dpF l) = true) := Vd.anyI_true hlt (anyI_more HB.out hq)
          by_cases hlq : (q : Int) < (l.length : Int)
          all_goals
            go_wp2
            go_loopw [10, 12] (fun ok s wr => s = .int .i64 0 ∧ ok = .bool false ∧ Hid (Up w wr)) (fun _ _ _ => 0)
            case atStart => exact ⟨rfl, rfl, HU⟩
            case round =>
              clear HU
              obtain ⟨rfl, rfl, HU⟩ := hrel
              have hlm : (0 : Int) < (m.length : Int) := by omega
              go_wp2
              go_ret
              exact ⟨ret_b (by rw [HR.out]; rfl), HU.out⟩
        · by_cases hlq : q < l.length
          · have j1 : (q : Int) < (l.length : Int) := by omega
            by_cases hs : q = k
            · have hs' : ((q : Int) == (k : Int)) = true := beq_iff_eq.2 (by omega)
              have HBn : Hid (Vd.anyI (q + 1) (dpG l k) = !true) := anyI_step HB.out (by rw [hs]; exact dpG_same l k)
              clear hs
              go_wp2
              go_roundw
              case rel => exact ⟨q + 1, true, by go_num, rfl, by omega, HU, HBn⟩
              case measure => simp [intOf]; omega
            · have hs' : ((q : Int) == (k : Int)) = false := beq_eq_false_iff_ne.2 (by omega)
              obtain ⟨o, ho⟩ := Pl.some_of_lt hlq
              obtain ⟨b', z, e', cz, hz⟩ := HM.out q o ho
              cases e'
              have Hb2 : Hid (o.length ≤ 1048576) := by have := HZ.out.ring o (Pl.mem_of_some ho); show _ ≤ _; omega
              have HG := hide (dpG_at hs Hr.out ho)
              have HK : Hid (∀ g : Gr wr, Calls Tryz.prog 129 #[y, z] g.v fun e w' => e = .returned (.bool (Vd.pointsD r o)) ∧ Up g.v w') := fun g =>
                pointsD_any y z r o _ ((Hy.out.up HU.out).up g.up) ((hz.up HU.out).up g.up) Hb.out Hb2.out (HZ.out.cd r Hrm.out) (HZ.out.cd o (Pl.mem_of_some ho))
              have c1 := cell_gr (HU.out.cell CY.out)
              have c2 := cell_gr (HU.out.cell cz)
              have j0 : (0 : Int) ≤ (q : Int) := by omega
              generalize Vd.pointsD r o = X at *
              clear hs ho cz hz
              go_wp2_with fail
              refine wp_region_up (by kernel_rfl) (by kernel_rfl) ?_
              repeat (first | go_big_quiet_step ((go_at_call 129; exact Calls.up_of (HK.out _))))
              refine wpQuiet_nil ?_
              rintro w3 ⟨⟨_, u3⟩, rfl⟩
              have HU3 := hide (HU.out.trans u3)
              have HBn : Hid (Vd.anyI (q + 1) (dpG l k) = !X) := by rw [Vd.anyI_succ, HB.out, HG.out]; exact rfl
              clear u3 c1 c2 HK
              go_wp2
              go_roundw
              case rel => exact ⟨q + 1, X, by go_num, rfl, by omega, HU3, HBn⟩
              case measure => simp [intOf]; omega
          · have j1 : ¬ (q : Int) < (l.length : Int) := by omega
            have hq2 : q = l.length := by omega
            have HA2 : Hid (Vd.anyI (k + 1) (dpF l) = false) := anyI_step HA.out (by rw [HF.out, ← hq2]; exact HB.out)
            clear hq2
            go_wp2
            go_loopw [10, 12] (fun ok s wr => s = .int .i64 0 ∧ ok = .bool true ∧ Hid (Up w wr)) (fun _ _ _ => 0)
            case atStart => exact ⟨rfl, rfl, HU⟩
            case round =>
              clear HU
              obtain ⟨rfl, rfl, HU⟩ := hrel
              have hlm : (0 : Int) < (m.length : Int) := by omega
              go_wp2
              go_roundw
              case rel => exact ⟨k + 1, by go_num, by omega, HU, HA2⟩
              case measure => simp [intOf]; omega
    · have hk2 : k = l.length := by omega
      subst hk2
      go_wp2
      go_ret
      exact ⟨ret_b (by rw [HA.out]; rfl), HU.out⟩
end Go.Proofs.YtcclepohmhdpbaaGreatDoor
