import Derived.Test.YtcclepohmhdpbabGreatDoorClH
namespace Go.Proofs.YtcclepohmhdpbabGreatDoor
set_option linter.all false
open Go.RowKit Go.Deep
theorem freeL_on {r : Ring} {t : List Ring} {b f : Bool} {p : Vd.Spot} (h : Vd.place r p = 1) : Vd.freeL (r :: t) b f p = false := by unfold Vd.freeL; rw [if_pos h]
theorem freeL_go {r : Ring} {t : List Ring} {b f : Bool} {p : Vd.Spot} (h : Vd.place r p ≠ 1) : Vd.freeL (r :: t) b f p = Vd.freeL t false (f || (b && decide (Vd.place r p = 0)) || (!b && decide (Vd.place r p = 2))) p := by conv => lhs; unfold Vd.freeL; rw [if_neg h]
set_option maxHeartbeats 8000000 in
theorem free_any (v : Value) (l : Poly) (p : Vd.Spot) (w : World) (hv : Rd2 w v l) (hl : l.length ≤ 1048576) (hl2 : ∀ r ∈ l, r.length ≤ 1048576) (hc : Vd.CdL l) (hp : Vd.Sp p) :
  Calls Tryz.prog 100 #[v, spotV p] w fun e w' => e = .returned (.bool (Vd.free l p)) ∧ Up w w' := by
 obtain ⟨ao, cap, rfl, hm⟩ := hv
 have HM := hide hm
 have HC := hide hc
 have HL := hide hl2
 have HP := hide hp
 obtain ⟨⟨x, y⟩, t⟩ := p
 clear hm hc hl2 hp
 simp only [spotV]
 have R0 := hide (new_row (w := w) (o := .cells #[.int .i64 x, .int .i64 y, .int .i64 t] 65) (vs := [.int .i64 x, .int .i64 y, .int .i64 t]) rfl)
 have HU0 : Hid (Up w (w.alloc (.cells #[.int .i64 x, .int .i64 y, .int .i64 t] 65))) := (Up.refl _).alloc _
 go_enter Tryz.func100, Tryz.ntmps100
 go_wp2
 go_loopw [5, 11] (fun fv i wr => ∃ (k : Nat) (f : Bool), i = .int .i64 k ∧ fv = .bool f ∧ k ≤ l.length ∧ Hid (Up w wr) ∧ Hid (VRow wr w.heap.size 65 [.int .i64 x, .int .i64 y, .int .i64 t]) ∧ Hid (Vd.free l ((x, y), t) = Vd.freeL (l.drop k) (decide (k = 0)) f ((x, y), t))) (fun _ i _ => l.length - (intOf i).toNat)
 case atStart => exact ⟨0, false, rfl, rfl, Nat.zero_le _, HU0, R0, rfl⟩
 case round =>
  clear HU0 R0
  obtain ⟨k, f, rfl, rfl, hk, HU, R0, HE⟩ := hrel
  by_cases hlt : k < l.length
  ·obtain ⟨r, hr⟩ := Pl.some_of_lt hlt
   obtain ⟨b, z, rfl, cu, hz⟩ := HM.out k r hr
   have Hz := hide (hz.up HU.out)
   have cu2 := HU.out.cell cu
   have HrL := hide (HL.out r (Pl.mem_of_some hr))
   have HrC := hide (HC.out r (Pl.mem_of_some hr))
   have p0 := R0.out.cell (i := 0) rfl
   have p1 := R0.out.cell (i := 1) rfl
   have p2 := R0.out.cell (i := 2) rfl
   rw [drop_at hr] at HE
   clear hr cu hz
   go_wp2_with fail
   refine (place_any _ r ((x, y), t) _ Hz.out HrL.out HrC.out HP.out).mono ?_
   rintro e w2 ⟨rfl, hz2⟩
   have HU2 := hide (HU.out.trans hz2)
   have R2 := hide (R0.out.up hz2)
   clear hz2 cu2 p0 p1 p2
   by_cases h1 : Vd.place r ((x, y), t) = 1
   ·have HR := hide (HE.out.trans (freeL_on h1))
    rw [h1]
    go_wp2
    go_ret
    exact ⟨ret_b HR.out.symm, HU2.out⟩
   ·have HR := hide (HE.out.trans (freeL_go h1))
    generalize Vd.place r ((x, y), t) = P at *
    have h1' := beq_eq_false_iff_ne.2 h1
    by_cases hk0 : k = 0
    ·have HK := hide hk0
     rw [decide_eq_true hk0] at HR
     have j1 : ((k : Int) == 0) = true := beq_iff_eq.2 (by omega)
     clear hk0
     by_cases h0 : P = 0
     ·have HR2 : Hid (Vd.free l ((x, y), t) = Vd.freeL (l.drop (k + 1)) (decide (k + 1 = 0)) true ((x, y), t)) := by
       rw [HR.out, h0]; simp [Hid]
      subst h0
      go_wp2
      go_roundw
      case rel => exact ⟨k + 1, true, by rw [HK.out]; rfl, rfl, by omega, HU2, R2, HR2⟩
      case measure => simp [intOf]; omega
     ·have HR2 : Hid (Vd.free l ((x, y), t) = Vd.freeL (l.drop (k + 1)) (decide (k + 1 = 0)) f ((x, y), t)) := by
       rw [HR.out]; simp [Hid, h0]
      have h0' := beq_eq_false_iff_ne.2 h0
      go_wp2
      go_roundw
      case rel => exact ⟨k + 1, f, by rw [HK.out]; rfl, rfl, by omega, HU2, R2, HR2⟩
      case measure => simp [intOf]; omega
    ·rw [decide_eq_false hk0] at HR
     have j1 : ((k : Int) == 0) = false := beq_eq_false_iff_ne.2 (by omega)
     have j2 : (0 : Int) < (k : Int) := by omega
     clear hk0
     by_cases h2 : P = 2
     ·have HR2 : Hid (Vd.free l ((x, y), t) = Vd.freeL (l.drop (k + 1)) (decide (k + 1 = 0)) true ((x, y), t)) := by
       rw [HR.out, h2]; simp [Hid]
      subst h2
      go_wp2
      go_roundw
      case rel => exact ⟨k + 1, true, by go_num, rfl, by omega, HU2, R2, HR2⟩
      case measure => simp [intOf]; omega
     ·have HR2 : Hid (Vd.free l ((x, y), t) = Vd.freeL (l.drop (k + 1)) (decide (k + 1 = 0)) f ((x, y), t)) := by
       rw [HR.out]; simp [Hid, h2]
      have h2' := beq_eq_false_iff_ne.2 h2
      go_wp2
      go_roundw
      case rel => exact ⟨k + 1, f, by go_num, rfl, by omega, HU2, R2, HR2⟩
      case measure => simp [intOf]; omega
  ·have hk2 : k = l.length := by omega
   subst hk2
   rw [List.drop_length] at HE
   go_wp2
   go_ret
   exact ⟨ret_b HE.out.symm, HU.out⟩
set_option maxHeartbeats 4000000 in
theorem bounds_any (v u : Value) (a c : Poly) (w : World) (hv : Rd2 w v a) (hu : Rd2 w u c) (hl : a.length ≤ 1048576) (hl2 : ∀ r ∈ a, r.length ≤ 1048576) (hm : c.length ≤ 1048576) (hm2 : ∀ r ∈ c, r.length ≤ 1048576) (hc : Vd.CdL a) (hd : Vd.CdL c) :
  Calls Tryz.prog 66 #[v, u] w fun e w' => e = .returned (.bool (Vd.boundsX a c)) ∧ Up w w' := by
 obtain ⟨ao, cap, rfl, hM⟩ := hv
 obtain ⟨ao2, cap2, rfl, hM2⟩ := hu
 have HM := hide hM
 have HM2 := hide hM2
 have HC := hide hc
 have HL := hide hl2
 have HD := hide hd
 have HL2 := hide hm2
 have HT : Hid (Vd.boundsX a c = a.any fun r => c.any fun o => Vd.cross r o) := rfl
 generalize hf : (fun r => c.any fun o => Vd.cross r o) = f at *
 have HF : Hid (∀ s, f s = c.any fun o => Vd.cross s o) := by subst hf; exact fun _ => rfl
 clear hM hM2 hc hd hl2 hm2 hf
 go_enter Tryz.func66, Tryz.ntmps66
 go_wp2
 go_loopw [11] (fun i wr => ∃ k : Nat, i = .int .i64 k ∧ k ≤ a.length ∧ Hid (Up w wr) ∧ Hid ((a.take k).any f = false)) (fun i _ => a.length - (intOf i).toNat)
 case atStart => exact ⟨0, rfl, Nat.zero_le _, Up.refl _, rfl⟩
 case round =>
  obtain ⟨k, rfl, hk, HU, HA⟩ := hrel
  by_cases hlt : k < a.length
  ·obtain ⟨r, hr⟩ := Pl.some_of_lt hlt
   obtain ⟨b, z, rfl, cu, hz⟩ := HM.out k r hr
   obtain ⟨za, zc, rfl, -⟩ := id hz
   have Hz := hide hz
   have cu2 := HU.out.cell cu
   have Hr := hide hr
   have HrL := hide (HL.out r (Pl.mem_of_some hr))
   have HrC := hide (HC.out r (Pl.mem_of_some hr))
   have HX := hide (Pl.any_take_succ f hr)
   clear hr cu hz
   go_wp2
   clear cu2
   go_loopw [17] (fun i wr => ∃ q : Nat, i = .int .i64 q ∧ q ≤ c.length ∧ Hid (Up w wr) ∧ Hid ((c.take q).any (fun o => Vd.cross r o) = false)) (fun i _ => c.length - (intOf i).toNat)
   case atStart => exact ⟨0, rfl, Nat.zero_le _, HU, rfl⟩
   case round =>
    clear HU
    obtain ⟨q, rfl, hq, HU, HB⟩ := hrel
    by_cases hlq : q < c.length
    ·obtain ⟨o, ho⟩ := Pl.some_of_lt hlq
     obtain ⟨b', z', rfl, cu, hz⟩ := HM2.out q o ho
     have Hz2 := hide (hz.up HU.out)
     have HzU := hide (Hz.out.up HU.out)
     have cu2 := HU.out.cell cu
     have HoL := hide (HL2.out o (Pl.mem_of_some ho))
     have HoC := hide (HD.out o (Pl.mem_of_some ho))
     have HY := hide (Pl.any_take_succ (fun o => Vd.cross r o) ho)
     have Ho := hide ho
     clear ho cu hz
     cases hx : Vd.cross r o
     ·have Hx := hide hx
      clear hx
      go_wp2_with (go_at_call 94; refine (cross_any _ _ r o _ HzU.out Hz2.out HrL.out HoL.out HrC.out HoC.out).mono ?_; rintro e w2 ⟨rfl, hz2⟩; rw [Hx.out]; replace hz2 := hide hz2)
      go_roundw
      case rel => exact ⟨q + 1, by go_num, by omega, HU.out.trans hz2.out, by rw [HY.out, HB.out, Hx.out]; exact rfl⟩
      case measure => simp [intOf]; omega
     ·have Hx := hide hx
      have HR : Hid (Vd.boundsX a c = true) := by rw [HT.out]; exact Pl.any_true_of f Hr.out (by rw [HF.out]; exact Pl.any_true_of _ Ho.out hx)
      clear hx
      go_wp2_with (go_at_call 94; refine (cross_any _ _ r o _ HzU.out Hz2.out HrL.out HoL.out HrC.out HoC.out).mono ?_; rintro e w2 ⟨rfl, hz2⟩; rw [Hx.out]; replace hz2 := hide hz2)
      go_ret
      exact ⟨ret_b HR.out.symm, HU.out.trans hz2.out⟩
    ·have hq2 : q = c.length := by omega
     subst hq2
     rw [List.take_length] at HB
     go_wp2
     go_roundw
     case rel => exact ⟨k + 1, by go_num, by omega, HU, by rw [HX.out, HA.out, HF.out, HB.out]; exact rfl⟩
     case measure => simp [intOf]; omega
  ·have hk2 : k = a.length := by omega
   subst hk2
   rw [List.take_length] at HA
   have HR : Hid (Vd.boundsX a c = false) := by rw [HT.out]; exact HA.out
   go_wp2
   go_ret
   exact ⟨ret_b HR.out.symm, HU.out⟩
end Go.Proofs.YtcclepohmhdpbabGreatDoor
