import Derived.Test.YtcclepohmhdpbabGreatDoorCnB
import Derived.Test.YtcclepohmhdpbabGreatDoorNoted
import Derived.Test.YtcclepohmhdpbabGreatDoorClE
namespace Go.Proofs.YtcclepohmhdpbabGreatDoor
set_option linter.all false
open Go.RowKit Go.Deep
namespace Vd
theorem corners_mem {r : Ring} {p : Pnt} (h : p ∈ corners r) : p ∈ r := by
 unfold corners cornersI at h
 obtain ⟨i, hi, rfl⟩ := List.mem_map.1 h
 have hl := List.mem_range.1 (List.mem_filter.1 hi).1
 obtain ⟨x, hx⟩ := Pl.some_of_lt hl
 unfold ptAt; rw [List.getD_eq_getElem?_getD, hx]
 exact Pl.mem_of_some hx
theorem corners_cd {r : Ring} (h : CdR r) : CdR (corners r) := fun p hp => h p (corners_mem hp)
theorem leastI_lt {v : Ring} (h : v.length ≠ 0) : leastI v < v.length := by have := leastN_le v v.length; unfold leastI; omega
theorem stepI_le {v : Ring} (l : Bool) (h : v.length ≠ 0) : stepI v l ≤ v.length := by unfold stepI; split <;> omega
theorem rForm_len {r : Ring} {l : Bool} (h : (corners r).length ≠ 0) : (ringForm r l).length = (corners r).length + 1 := by unfold ringForm; rw [if_neg h]; simp
theorem rForm_at {r : Ring} {l : Bool} (h : (corners r).length ≠ 0) {k : Nat} (hk : k < (corners r).length + 1) : (ringForm r l)[k]? = some (ptAt (corners r) ((leastI (corners r) + k * stepI (corners r) l) % (corners r).length)) := by
 unfold ringForm; rw [if_neg h, List.getElem?_map, List.getElem?_range hk]; rfl
end Vd
def fillP (L : Ring) (k : Nat) : Ring := L.take k ++ zpts (L.length - k)
theorem fillP_zero (L : Ring) : fillP L 0 = zpts L.length := by simp [fillP]
theorem fillP_all (L : Ring) : fillP L L.length = L := by simp [fillP, zpts]
theorem fillP_set {L : Ring} {k : Nat} {p : Pnt} (h : L[k]? = some p) : (fillP L k).set k p = fillP L (k + 1) := by
 have hk := Pl.lt_of_some h
 unfold fillP zpts
 rw [Pl.take_one h, List.set_append_right _ _ (by rw [List.length_take]; omega), List.length_take, show k - min k L.length = 0 by omega, show L.length - k = L.length - (k + 1) + 1 by omega, List.replicate_succ, List.set_cons_zero]
 simp
theorem fillP_at {L : Ring} {k : Nat} (h : k < L.length) : (fillP L k)[k]? = some (0, 0) := by
 unfold fillP zpts
 rw [List.getElem?_append_right (by rw [List.length_take]; omega), List.length_take, show k - min k L.length = 0 by omega, show L.length - k = L.length - (k + 1) + 1 by omega, List.replicate_succ]; rfl
set_option maxRecDepth 8000 in
set_option maxHeartbeats 8000000 in
theorem ringForm_any (v : Value) (r : Ring) (l : Bool) (w : World) (hv : Rd1 w v r) (hr : r.length ≤ 1048575) (hc : Vd.CdR r) (h0 : (Vd.corners r).length ≠ 0) :
  Calls Tryz.prog 60 #[v, .bool l] w fun e w' => ∃ g : Nat, e = .returned (.slice (some ⟨g, 0, none⟩) (Vd.ringForm r l).length (Vd.ringForm r l).length) ∧ w.heap.size ≤ g ∧ PRow w' g (Vd.ringForm r l) ∧ Up w w' := by
 have hlen : (Vd.corners r).length ≤ r.length := by have := Vd.cornersI_len r r.length; exact this
 have HV := hide hv
 have HC := hide hc
 have HCV := hide (Vd.corners_cd hc)
 have HF : Hid (∀ k, k < (Vd.corners r).length + 1 → (Vd.ringForm r l)[k]? = some (Vd.ptAt (Vd.corners r) ((Vd.leastI (Vd.corners r) + k * Vd.stepI (Vd.corners r) l) % (Vd.corners r).length))) := fun k hk => Vd.rForm_at h0 hk
 have hfl := Vd.leastI_lt h0
 have hsl := Vd.stepI_le l h0
 have HLn := hide (Vd.rForm_len (l := l) h0)
 obtain ⟨ao0, cap0, rfl, -⟩ := HV.out
 clear hv hc
 have HCo := hide (corners_any _ r w HV.out (by omega) HC.out)
 have HSt : Hid (Vd.stepI (Vd.corners r) l = if Vd.lefts (Vd.corners r) (Vd.leastI (Vd.corners r)) = l then 1 else (Vd.corners r).length - 1) := rfl
 generalize Vd.corners r = V at *
 generalize Vd.ringForm r l = L at *
 generalize hf : Vd.leastI V = f at *
 generalize hs : Vd.stepI V l = s at *
 have Hf := hide hf
 clear hf hs
 have j0 : ((V.length : Int) == 0) = false := beq_eq_false_iff_ne.2 (by omega)
 have jn : ¬ V = [] := fun e => by subst e; simp at h0
 go_enter Tryz.func60, Tryz.ntmps60
 go_wp2_with fail
 refine HCo.out.mono ?_
 rintro e w1 ⟨u, rfl, hu1, ho⟩
 have HU1 := hide hu1
 obtain ⟨ao, cap, rfl⟩ := own_len ho
 have HR1 := hide (own_rd1 ho)
 clear hu1 ho HCo
 go_wp2_with fail
 refine (least2_any _ V w1 HR1.out (by omega)).mono ?_
 rintro e w2 ⟨rfl, hu2⟩
 rw [Hf.out]
 have HU2 := hide (HU1.out.trans hu2)
 have HR2 := hide (HR1.out.up hu2)
 clear hu2
 go_wp2_with fail
 refine (turnsLeft_any _ V f w2 HR2.out (by omega) HCV.out hfl).mono ?_
 rintro e w3 ⟨rfl, hu3⟩
 have HU3 := hide (HU2.out.trans hu3)
 have HR3 := hide (HR2.out.up hu3)
 clear hu3
 have HLe : Hid (L.length = V.length + 1) := HLn.out
 have hmk : ∀ w : World, (Instr.makeSlice 46 (.int .i64 ((V.length : Int) + 1)) (.int .i64 ((V.length : Int) + 1))).run Tryz.prog w = .ok (.slice (some ⟨w.heap.size, 0, none⟩) (V.length + 1) (V.length + 1)) (w.alloc (.cells (flat (zpts (V.length + 1))).toArray 48)) := fun w => make_pts (V.length + 1) (by omega) w
 have j1 : IntKind.i64.wrap ((V.length : Int) + 1) = (V.length : Int) + 1 := wrap_id (by omega) (by omega)
 have j2 : IntKind.i64.wrap ((V.length : Int) - 1) = (V.length : Int) - 1 := wrap_id (by omega) (by omega)
 have hcs : (Vd.lefts V f = l ∧ s = 1) ∨ (Vd.lefts V f ≠ l ∧ s = V.length - 1) := by
  by_cases h : Vd.lefts V f = l
  ·exact .inl ⟨h, by rw [HSt.out, if_pos h]⟩
  ·exact .inr ⟨h, by rw [HSt.out, if_neg h]⟩
 clear HSt
 generalize Vd.lefts V f = B at *
 rcases hcs with ⟨hB, hs⟩ | ⟨hB, hs⟩
 ·have hB1 : (B != l) = false := by rw [hB]; simp
  have hB2 : (B == l) = true := by rw [hB]; simp
  subst hs
  clear hB
  go_wp2_with fail
  have HUp : Hid (Up w3 (w3.alloc (.cells (flat (zpts (V.length + 1))).toArray 48))) := (Up.refl _).alloc _
  have RB : Hid (PRow (w3.alloc (.cells (flat (zpts (V.length + 1))).toArray 48)) w3.heap.size (fillP L 0)) := by
   rw [fillP_zero, HLe.out]; exact VRow.new w3 _ _
  have hbase : Hid (w.heap.size ≤ w3.heap.size) := HU3.out.size
  obtain ⟨G, hG⟩ : ∃ G, w3.heap.size = G := ⟨_, rfl⟩
  rw [hG] at RB hbase ⊢
  have HG := hide hG
  generalize w3.alloc (.cells (flat (zpts (V.length + 1))).toArray 48) = W0 at *
  clear hmk hG
  go_loopw [31] (fun i wq => ∃ t : Nat, i = .int .i64 t ∧ t ≤ V.length + 1 ∧ Hid (Up w3 wq) ∧ Hid (PRow wq G (fillP L t))) (fun i _ => V.length + 1 - (intOf i).toNat)
  case atStart => exact ⟨0, rfl, Nat.zero_le _, HUp, RB⟩
  case round =>
   clear HUp RB
   obtain ⟨t, rfl, ht, HUq, RB⟩ := hrel
   by_cases hlt : t < V.length + 1
   ·have hmul : t * 1 ≤ (V.length + 1) * V.length := Nat.mul_le_mul (by omega) (by omega)
    have hmul2 : (V.length + 1) * V.length ≤ 1048577 * 1048576 := Nat.mul_le_mul (by omega) (by omega)
    obtain ⟨P, hP⟩ : ∃ P, (f + t * 1) % V.length = P := ⟨_, rfl⟩
    have hPl : P < V.length := by rw [← hP]; exact Nat.mod_lt _ (by omega)
    obtain ⟨⟨px, py⟩, hp⟩ := Pl.some_of_lt hPl
    obtain ⟨ao', cap', e', hm⟩ := HR3.out
    cases e'
    obtain ⟨b, rfl, c0, c1⟩ := hm P _ hp
    have k0 := HUq.out.cell c0
    have k1 := HUq.out.cell c1
    have HLt := hide (HF.out t hlt)
    rw [hP, ptAt_some hp] at HLt
    have m3 : IntKind.i64.wrap ((f : Int) + (t : Int)) = (f : Int) + (t : Int) := wrap_id (by omega) (by omega)
    have m4 : ((f : Int) + (t : Int)).tmod (V.length : Int) = (P : Int) := by
     rw [show (f : Int) + (t : Int) = ((f + t * 1 : Nat) : Int) by omega, ← hP]; exact rfl
    have m5 : IntKind.i64.wrap (t : Int) = (t : Int) := wrap_id (by omega) (by omega)
    have n1 : (0 : Int) ≤ (P : Int) := by omega
    have n2 : (P : Int) < (V.length : Int) := by omega
    have n3 : (0 : Int) ≤ (t : Int) := by omega
    have n4 : (t : Int) < (V.length : Int) + 1 := by omega
    have hLt : t < L.length := by rw [HLe.out]; exact hlt
    have z0 := (PRow.cells RB.out (fillP_at hLt)).1
    have z1 := (PRow.cells RB.out (fillP_at hLt)).2
    have zf := fun i => VRow.frozen RB.out i
    have hlow : Hid (w3.heap.size ≤ G) := Nat.le_of_eq HG.out
    try dsimp only at k0 k1 z0 z1
    clear hm hp c0 c1 hP hmul hmul2
    go_wp2
    go_roundw
    case rel => exact ⟨t + 1, by go_num, by omega, (HUq.out.setCell hlow.out _).setCell hlow.out _, by have := PRow.set RB.out t (px, py); rw [fillP_set HLt.out] at this; exact this⟩
    case measure => simp [intOf]; omega
   ·have e : t = L.length := by rw [HLe.out]; omega
    have HRr : Hid (PRow wr G L) := by have := RB.out; rw [e, fillP_all] at this; exact this
    have n4 : ¬ (t : Int) < (V.length : Int) + 1 := by omega
    clear e
    go_wp2
    go_ret
    exact ⟨G, by rw [HLe.out]; rfl, hbase.out, HRr.out, HU3.out.trans HUq.out⟩
 ·have hB1 : (B != l) = true := by simpa using hB
  have hB2 : (B == l) = false := by simpa using hB
  have hsI : (V.length : Int) - 1 = (s : Int) := by omega
  clear hB hs
  go_wp2_with fail
  have HUp : Hid (Up w3 (w3.alloc (.cells (flat (zpts (V.length + 1))).toArray 48))) := (Up.refl _).alloc _
  have RB : Hid (PRow (w3.alloc (.cells (flat (zpts (V.length + 1))).toArray 48)) w3.heap.size (fillP L 0)) := by
   rw [fillP_zero, HLe.out]; exact VRow.new w3 _ _
  have hbase : Hid (w.heap.size ≤ w3.heap.size) := HU3.out.size
  obtain ⟨G, hG⟩ : ∃ G, w3.heap.size = G := ⟨_, rfl⟩
  rw [hG] at RB hbase ⊢
  have HG := hide hG
  generalize w3.alloc (.cells (flat (zpts (V.length + 1))).toArray 48) = W0 at *
  clear hmk hG
  go_loopw [31] (fun i wq => ∃ t : Nat, i = .int .i64 t ∧ t ≤ V.length + 1 ∧ Hid (Up w3 wq) ∧ Hid (PRow wq G (fillP L t))) (fun i _ => V.length + 1 - (intOf i).toNat)
  case atStart => exact ⟨0, rfl, Nat.zero_le _, HUp, RB⟩
  case round =>
   clear HUp RB
   obtain ⟨t, rfl, ht, HUq, RB⟩ := hrel
   by_cases hlt : t < V.length + 1
   ·have hmul : t * s ≤ (V.length + 1) * V.length := Nat.mul_le_mul (by omega) hsl
    have hmul2 : (V.length + 1) * V.length ≤ 1048577 * 1048576 := Nat.mul_le_mul (by omega) (by omega)
    obtain ⟨P, hP⟩ : ∃ P, (f + t * s) % V.length = P := ⟨_, rfl⟩
    have hPl : P < V.length := by rw [← hP]; exact Nat.mod_lt _ (by omega)
    obtain ⟨⟨px, py⟩, hp⟩ := Pl.some_of_lt hPl
    obtain ⟨ao', cap', e', hm⟩ := HR3.out
    cases e'
    obtain ⟨b, rfl, c0, c1⟩ := hm P _ hp
    have k0 := HUq.out.cell c0
    have k1 := HUq.out.cell c1
    have HLt := hide (HF.out t hlt)
    rw [hP, ptAt_some hp] at HLt
    have m1 : (t : Int) * (s : Int) = ((t * s : Nat) : Int) := by rw [Int.natCast_mul]
    have m2 : IntKind.i64.wrap ((t : Int) * (s : Int)) = (t : Int) * (s : Int) := wrap_id (by rw [m1]; omega) (by rw [m1]; omega)
    have m3 : IntKind.i64.wrap ((f : Int) + (t : Int) * (s : Int)) = (f : Int) + (t : Int) * (s : Int) := wrap_id (by rw [m1]; omega) (by rw [m1]; omega)
    have m4 : ((f : Int) + (t : Int) * (s : Int)).tmod (V.length : Int) = (P : Int) := by
     rw [m1, show (f : Int) + ((t * s : Nat) : Int) = ((f + t * s : Nat) : Int) by omega, ← hP]; exact rfl
    have n1 : (0 : Int) ≤ (P : Int) := by omega
    have n2 : (P : Int) < (V.length : Int) := by omega
    have n3 : (0 : Int) ≤ (t : Int) := by omega
    have n4 : (t : Int) < (V.length : Int) + 1 := by omega
    have hLt : t < L.length := by rw [HLe.out]; exact hlt
    have z0 := (PRow.cells RB.out (fillP_at hLt)).1
    have z1 := (PRow.cells RB.out (fillP_at hLt)).2
    have zf := fun i => VRow.frozen RB.out i
    have hlow : Hid (w3.heap.size ≤ G) := Nat.le_of_eq HG.out
    try dsimp only at k0 k1 z0 z1
    clear hm hp c0 c1 hP m1 hmul hmul2
    go_wp2
    go_roundw
    case rel => exact ⟨t + 1, by go_num, by omega, (HUq.out.setCell hlow.out _).setCell hlow.out _, by have := PRow.set RB.out t (px, py); rw [fillP_set HLt.out] at this; exact this⟩
    case measure => simp [intOf]; omega
   ·have e : t = L.length := by rw [HLe.out]; omega
    have HRr : Hid (PRow wr G L) := by have := RB.out; rw [e, fillP_all] at this; exact this
    have n4 : ¬ (t : Int) < (V.length : Int) + 1 := by omega
    clear e
    go_wp2
    go_ret
    exact ⟨G, by rw [HLe.out]; rfl, hbase.out, HRr.out, HU3.out.trans HUq.out⟩
end Go.Proofs.YtcclepohmhdpbabGreatDoor
