import Derived.Test.YtcclepohmhdpbabGreatDoorPnH
import Derived.Test.YtcclepohmhdpbabGreatDoorClJ
namespace Go.Proofs.YtcclepohmhdpbabGreatDoor
set_option linter.all false
open Go.RowKit Go.Deep
theorem cmpR_cons (p q : Pnt) (t u : Ring) : Vd.cmpR (p :: t) (q :: u) = if Vd.bef q p then 1 else if Vd.bef p q then -1 else Vd.cmpR t u := by rw [Vd.cmpR]
theorem dropc {α : Type} {l : List α} {k : Nat} {x : α} (h : l[k]? = some x) : l.drop k = x :: l.drop (k + 1) := by
 have hk := Pl.lt_of_some h
 rw [List.drop_eq_getElem_cons hk]
 rw [List.getElem?_eq_getElem hk] at h
 rw [Option.some.inj h]
theorem cmpR_left (p : Pnt) (t : Ring) : Vd.cmpR (p :: t) [] = 1 := by rw [Vd.cmpR]
theorem cmpR_end (u : Ring) : Vd.cmpR [] u = if 0 < u.length then -1 else 0 := by cases u <;> simp [Vd.cmpR]
set_option maxRecDepth 8000 in
set_option maxHeartbeats 4000000 in
theorem compareRings_any (v u : Value) (a b : Ring) (w : World) (hv : Rd1 w v a) (hu : Rd1 w u b) (ha : a.length ≤ 1048576) (hb : b.length ≤ 1048576) :
  Calls Tryz.prog 129 #[v, u] w fun e w' => e = .returned (.int .i64 (Vd.cmpR a b)) ∧ Up w w' := by
 obtain ⟨ao, cap, rfl, hm⟩ := hv
 obtain ⟨ao2, cap2, rfl, hm2⟩ := hu
 have HM := hide hm
 have HM2 := hide hm2
 have HX := hide cmpR_cons
 clear hm hm2
 go_enter Tryz.func129, Tryz.ntmps129
 go_wp2
 go_loopw [9] (fun i wr => ∃ k : Nat, i = .int .i64 k ∧ k ≤ a.length ∧ k ≤ b.length ∧ Hid (Up w wr) ∧ Hid (Vd.cmpR a b = Vd.cmpR (a.drop k) (b.drop k))) (fun i _ => a.length - (intOf i).toNat)
 case atStart => exact ⟨0, rfl, Nat.zero_le _, Nat.zero_le _, Up.refl _, rfl⟩
 case round =>
  obtain ⟨k, rfl, hk, hk2, HU, HE⟩ := hrel
  by_cases hlt : k < a.length
  ·obtain ⟨⟨px, py⟩, hp⟩ := Pl.some_of_lt hlt
   obtain ⟨g, rfl, c0, c1⟩ := HM.out k _ hp
   rw [dropc hp] at HE
   have e0 := HU.out.cell c0
   have e1 := HU.out.cell c1
   have HUT : Hid (Up wr (wr.alloc (.cells #[.int .i64 px, .int .i64 py] 48))) := (Up.refl _).alloc _
   have RN := hide (new_row (w := wr) (o := .cells #[.int .i64 px, .int .i64 py] 48) (vs := [.int .i64 px, .int .i64 py]) rfl)
   have q0 := RN.out.gr (i := 0) rfl
   have q1 := RN.out.gr (i := 1) rfl
   have i1 : (0 : Int) ≤ (k : Int) := by omega
   have i2 : (k : Int) < (a.length : Int) := by omega
   try dsimp only at e0 e1 q0 q1
   clear hp c0 c1
   by_cases hkb : k = b.length
   ·have hkb' : ((k : Int) == (b.length : Int)) = true := beq_iff_eq.2 (by omega)
    have HR : Hid (Vd.cmpR a b = 1) := by rw [HE.out, hkb, List.drop_length, cmpR_left]; exact rfl
    clear hkb
    go_upto_region 4 with fail
    refine wp_region_up (by kernel_rfl) (by kernel_rfl) ?_
    repeat (first | go_big_quiet_step (fail))
    refine wpQuiet_nil ?_
    rintro w3 ⟨⟨_, u3⟩, rfl⟩
    have HU3 := hide (HU.out.trans (HUT.out.trans u3))
    clear u3 e0 e1 q0 q1
    go_wp2
    go_ret
    exact ⟨ret_i HR.out.symm, HU3.out⟩
   ·have hkb' : ((k : Int) == (b.length : Int)) = false := beq_eq_false_iff_ne.2 (by omega)
    obtain ⟨⟨qx, qy⟩, hq⟩ := Pl.some_of_lt (show k < b.length by omega)
    obtain ⟨g2, rfl, d0, d1⟩ := HM2.out k _ hq
    rw [dropc hq, HX.out] at HE
    have D0 := hide (HUT.out.cell (HU.out.cell d0))
    have D1 := hide (HUT.out.cell (HU.out.cell d1))
    have g0 := cell_gr D0.out
    have g1 := cell_gr D1.out
    have i3 : (k : Int) < (b.length : Int) := by omega
    have HK : Hid (∀ g : Gr (wr.alloc (.cells #[.int .i64 px, .int .i64 py] 48)), Calls Tryz.prog 128 #[.agg #[.int .i64 qx, .int .i64 qy], .agg #[.int .i64 px, .int .i64 py]] g.v fun e w' => e = .returned (.bool (decide (Vd.bef (qx, qy) (px, py)))) ∧ Up g.v w') := fun g => before_any (qx, qy) (px, py) g.v
    try dsimp only at g0 g1
    clear hq d0 d1 hkb
    generalize hW : wr.alloc (.cells #[.int .i64 px, .int .i64 py] 48) = W at *
    by_cases hb1 : Vd.bef (qx, qy) (px, py)
    ·rw [decide_eq_true hb1] at HK
     have HR : Hid (Vd.cmpR a b = 1) := by rw [HE.out, if_pos hb1]; exact rfl
     clear hb1
     go_upto_region 4 with fail
     refine wp_region_up (by kernel_rfl) (by kernel_rfl) ?_
     repeat (first | go_big_quiet_step ((go_at_call 128; exact Calls.up_of (HK.out _))))
     refine wpQuiet_nil ?_
     rintro w3 ⟨⟨_, u3⟩, rfl⟩
     have HU3 := hide (HU.out.trans (HUT.out.trans u3))
     clear u3 e0 e1 q0 q1 g0 g1 HK hW
     go_wp2
     go_ret
     exact ⟨ret_i HR.out.symm, HU3.out⟩
    ·rw [decide_eq_false hb1] at HK
     rw [if_neg hb1] at HE
     clear hb1
     go_upto_region 4 with fail
     refine wp_region_up (by kernel_rfl) (by kernel_rfl) ?_
     repeat (first | go_big_quiet_step ((go_at_call 128; exact Calls.up_of (HK.out _))))
     refine wpQuiet_nil ?_
     rintro w3 ⟨⟨_, u3⟩, rfl⟩
     have HU3 := hide (HU.out.trans (HUT.out.trans u3))
     have g0' := cell_gr (u3.cell D0.out)
     have g1' := cell_gr (u3.cell D1.out)
     have q0' := (RN.out.up u3).gr (i := 0) rfl
     have q1' := (RN.out.up u3).gr (i := 1) rfl
     try dsimp only at g0' g1' q0' q1'
     clear u3 e0 e1 q0 q1 g0 g1 HK
     have HK : Hid (∀ g : Gr w3, Calls Tryz.prog 128 #[.agg #[.int .i64 px, .int .i64 py], .agg #[.int .i64 qx, .int .i64 qy]] g.v fun e w' => e = .returned (.bool (decide (Vd.bef (px, py) (qx, qy)))) ∧ Up g.v w') := fun g => before_any (px, py) (qx, qy) g.v
     by_cases hb2 : Vd.bef (px, py) (qx, qy)
     ·rw [decide_eq_true hb2] at HK
      have HR : Hid (Vd.cmpR a b = -1) := by rw [HE.out, if_pos hb2]; exact rfl
      clear hb2 hW
      go_upto_region 6 with fail
      refine wp_region_up (by kernel_rfl) (by kernel_rfl) ?_
      repeat (first | go_big_quiet_step ((go_at_call 128; exact Calls.up_of (HK.out _))))
      refine wpQuiet_nil ?_
      rintro w4 ⟨⟨_, u4⟩, rfl⟩
      have HU4 := hide (HU3.out.trans u4)
      clear u4 q0' q1' g0' g1' HK
      go_wp2
      go_ret
      exact ⟨ret_i HR.out.symm, HU4.out⟩
     ·rw [decide_eq_false hb2] at HK
      rw [if_neg hb2] at HE
      clear hb2 hW
      go_upto_region 6 with fail
      refine wp_region_up (by kernel_rfl) (by kernel_rfl) ?_
      repeat (first | go_big_quiet_step ((go_at_call 128; exact Calls.up_of (HK.out _))))
      refine wpQuiet_nil ?_
      rintro w4 ⟨⟨_, u4⟩, rfl⟩
      have HU4 := hide (HU3.out.trans u4)
      clear u4 q0' q1' g0' g1' HK
      go_wp2
      go_roundw
      case rel => exact ⟨k + 1, by go_num, by omega, by omega, HU4, HE⟩
      case measure => simp [intOf]; omega
  ·have e1 : a.drop k = [] := List.drop_eq_nil_of_le (by omega)
   have hka : k = a.length := by omega
   have i2 : ¬ (k : Int) < (a.length : Int) := by omega
   rw [e1, cmpR_end, List.length_drop] at HE
   clear e1
   by_cases hl : a.length < b.length
   ·have HR : Hid (Vd.cmpR a b = -1) := by rw [HE.out, if_pos (by omega)]; exact rfl
    have i3 : (a.length : Int) < (b.length : Int) := by omega
    clear hka
    go_wp2
    go_ret
    exact ⟨ret_i HR.out.symm, HU.out⟩
   ·have HR : Hid (Vd.cmpR a b = 0) := by rw [HE.out, if_neg (by omega)]; exact rfl
    have i3 : ¬ (a.length : Int) < (b.length : Int) := by omega
    clear hka
    go_wp2
    go_ret
    exact ⟨ret_i HR.out.symm, HU.out⟩
theorem cmpP_cons (p q : Ring) (t u : Poly) : Vd.cmpP (p :: t) (q :: u) = if Vd.cmpR p q ≠ 0 then Vd.cmpR p q else Vd.cmpP t u := by rw [Vd.cmpP]
theorem cmpP_left (p : Ring) (t : Poly) : Vd.cmpP (p :: t) [] = 1 := by rw [Vd.cmpP]
theorem cmpP_end (u : Poly) : Vd.cmpP [] u = if 0 < u.length then -1 else 0 := by cases u <;> simp [Vd.cmpP]
set_option maxRecDepth 8000 in
set_option maxHeartbeats 4000000 in
theorem comparePolygons_any (v u : Value) (a b : Poly) (w : World) (hv : Rd2 w v a) (hu : Rd2 w u b) (ha : a.length ≤ 1048576) (hb : b.length ≤ 1048576) (hra : ∀ r ∈ a, r.length ≤ 1048576) (hrb : ∀ r ∈ b, r.length ≤ 1048576) :
  Calls Tryz.prog 91 #[v, u] w fun e w' => e = .returned (.int .i64 (Vd.cmpP a b)) ∧ Up w w' := by
 obtain ⟨ao, cap, rfl, hm⟩ := hv
 obtain ⟨ao2, cap2, rfl, hm2⟩ := hu
 have HM := hide hm
 have HM2 := hide hm2
 have HA := hide hra
 have HB := hide hrb
 have HX := hide cmpP_cons
 clear hm hm2 hra hrb
 go_enter Tryz.func91, Tryz.ntmps91
 go_wp2
 go_loopw [10] (fun i wr => ∃ k : Nat, i = .int .i64 k ∧ k ≤ a.length ∧ k ≤ b.length ∧ Hid (Up w wr) ∧ Hid (Vd.cmpP a b = Vd.cmpP (a.drop k) (b.drop k))) (fun i _ => a.length - (intOf i).toNat)
 case atStart => exact ⟨0, rfl, Nat.zero_le _, Nat.zero_le _, Up.refl _, rfl⟩
 case round =>
  obtain ⟨k, rfl, hk, hk2, HU, HE⟩ := hrel
  by_cases hlt : k < a.length
  ·obtain ⟨p, hp⟩ := Pl.some_of_lt hlt
   obtain ⟨g, y, rfl, c0, hy⟩ := HM.out k _ hp
   rw [dropc hp] at HE
   have e0 := HU.out.cell c0
   have Hy := hide (hy.up HU.out)
   have Hpl := hide (HA.out p (Pl.mem_of_some hp))
   have i1 : (0 : Int) ≤ (k : Int) := by omega
   have i2 : (k : Int) < (a.length : Int) := by omega
   clear hp c0 hy
   by_cases hkb : k = b.length
   ·have hkb' : ((k : Int) == (b.length : Int)) = true := beq_iff_eq.2 (by omega)
    have HR : Hid (Vd.cmpP a b = 1) := by rw [HE.out, hkb, List.drop_length, cmpP_left]; exact rfl
    clear hkb
    go_wp2
    go_ret
    exact ⟨ret_i HR.out.symm, HU.out⟩
   ·have hkb' : ((k : Int) == (b.length : Int)) = false := beq_eq_false_iff_ne.2 (by omega)
    obtain ⟨q, hq⟩ := Pl.some_of_lt (show k < b.length by omega)
    obtain ⟨g2, z, rfl, d0, hz⟩ := HM2.out k _ hq
    rw [dropc hq, HX.out] at HE
    have e1 := HU.out.cell d0
    have Hz := hide (hz.up HU.out)
    have Hql := hide (HB.out q (Pl.mem_of_some hq))
    have i3 : (k : Int) < (b.length : Int) := by omega
    clear hq d0 hz hkb
    go_wp2_with fail
    refine (compareRings_any _ _ p q _ Hy.out Hz.out Hpl.out Hql.out).mono ?_
    rintro e w2 ⟨rfl, hu2⟩
    have HU2 := hide (HU.out.trans hu2)
    generalize Vd.cmpR p q = X at *
    clear hu2 e0 e1
    by_cases hX : X = 0
    ·rw [if_neg (by simpa using hX)] at HE
     subst hX
     go_wp2
     go_roundw
     case rel => exact ⟨k + 1, by go_num, by omega, by omega, HU2, HE⟩
     case measure => simp [intOf]; omega
    ·rw [if_pos hX] at HE
     have hX1 := bne_iff_ne.2 hX
     have hX2 := beq_eq_false_iff_ne.2 hX
     go_wp2
     go_ret
     exact ⟨ret_i HE.out.symm, HU2.out⟩
  ·have e1 : a.drop k = [] := List.drop_eq_nil_of_le (by omega)
   have hka : k = a.length := by omega
   have i2 : ¬ (k : Int) < (a.length : Int) := by omega
   rw [e1, cmpP_end, List.length_drop] at HE
   clear e1
   by_cases hl : a.length < b.length
   ·have HR : Hid (Vd.cmpP a b = -1) := by rw [HE.out, if_pos (by omega)]; exact rfl
    have i3 : (a.length : Int) < (b.length : Int) := by omega
    clear hka
    go_wp2
    go_ret
    exact ⟨ret_i HR.out.symm, HU.out⟩
   ·have HR : Hid (Vd.cmpP a b = 0) := by rw [HE.out, if_neg (by omega)]; exact rfl
    have i3 : ¬ (a.length : Int) < (b.length : Int) := by omega
    clear hka
    go_wp2
    go_ret
    exact ⟨ret_i HR.out.symm, HU.out⟩
theorem cntA_succ (m : Mult) (a n : Nat) : Vd.cntA m a (n + 1) = Vd.cntA m a n + (if Vd.isA m a n = true then 1 else 0) := by
 unfold Vd.cntA; rw [List.range_succ, List.countP_append, List.countP_singleton]
theorem cntA_le (m : Mult) (a : Nat) : ∀ n, Vd.cntA m a n ≤ n := fun n => by unfold Vd.cntA; have := List.countP_le_length (p := Vd.isA m a) (l := List.range n); simpa using this
theorem isA_at {m : Mult} {a i : Nat} {p q : Poly} (hp : m[i]? = some p) (hq : m[a]? = some q) : Vd.isA m a i = (decide (Vd.cmpP p q < 0) || (decide (Vd.cmpP p q = 0) && decide (i < a))) := by unfold Vd.isA; rw [pAt_some hp, pAt_some hq]
set_option maxRecDepth 8000 in
set_option maxHeartbeats 4000000 in
theorem countAhead_any (v : Value) (m : Mult) (a : Nat) (w : World) (hv : Rd3 w v m) (ha : a < m.length) (hm : m.length ≤ 1048576) (hl : ∀ l ∈ m, l.length ≤ 1048576) (hr : ∀ l ∈ m, ∀ r ∈ l, r.length ≤ 1048576) :
  Calls Tryz.prog 61 #[v, .int .i64 a] w fun e w' => e = .returned (.int .i64 (Vd.cntA m a m.length)) ∧ Up w w' := by
 obtain ⟨ao, cap, rfl, hM⟩ := hv
 have HM := hide hM
 have HL := hide hl
 have HR := hide hr
 have HS := hide (fun n => cntA_succ m a n)
 have HLe := hide (fun n => cntA_le m a n)
 obtain ⟨q, hq⟩ := Pl.some_of_lt ha
 obtain ⟨g, z, rfl, d0, hz⟩ := hM a q hq
 have Hq := hide hq
 have D0 := hide d0
 have Hz := hide hz
 have i3 : (0 : Int) ≤ (a : Int) := by omega
 have i4 : (a : Int) < (m.length : Int) := by omega
 clear hM hl hr hq d0 hz
 go_enter Tryz.func61, Tryz.ntmps61
 go_wp2
 go_loopw [5, 11] (fun cv i wr => ∃ k c : Nat, i = .int .i64 k ∧ cv = .int .i64 c ∧ k ≤ m.length ∧ c ≤ k ∧ Hid (Up w wr) ∧ Hid (c = Vd.cntA m a k)) (fun _ i _ => m.length - (intOf i).toNat)
 case atStart => exact ⟨0, 0, rfl, rfl, Nat.zero_le _, Nat.zero_le _, Up.refl _, rfl⟩
 case round =>
  obtain ⟨k, c, rfl, rfl, hk, hck, HU, HE⟩ := hrel
  by_cases hlt : k < m.length
  ·obtain ⟨p, hp⟩ := Pl.some_of_lt hlt
   obtain ⟨g', y, e', c0, hy⟩ := HM.out k _ hp
   cases e'
   have e0 := HU.out.cell c0
   have e1 := HU.out.cell D0.out
   have Hy := hide (hy.up HU.out)
   have Hz2 := hide (Hz.out.up HU.out)
   have HI := hide (isA_at hp Hq.out)
   have Hpm := hide (Pl.mem_of_some hp)
   have Hqm := hide (Pl.mem_of_some Hq.out)
   have i1 : (0 : Int) ≤ (k : Int) := by omega
   have i2 : (k : Int) < (m.length : Int) := by omega
   clear hp c0 hy
   go_wp2_with fail
   refine (comparePolygons_any _ _ p q _ Hy.out Hz2.out (HL.out p Hpm.out) (HL.out q Hqm.out) (HR.out p Hpm.out) (HR.out q Hqm.out)).mono ?_
   rintro e w2 ⟨rfl, hu2⟩
   have HU2 := hide (HU.out.trans hu2)
   generalize Vd.cmpP p q = X at *
   clear hu2 e0 e1
   have HSk := hide (HS.out k)
   rw [HI.out, ← HE.out] at HSk
   by_cases hX : X < 0
   ·have HE2 : Hid (c + 1 = Vd.cntA m a (k + 1)) := by rw [HSk.out]; simp [hX, Hid]
    go_wp2
    go_roundw
    case rel => exact ⟨k + 1, c + 1, by go_num, by go_num, by omega, by omega, HU2, HE2⟩
    case measure => simp [intOf]; omega
   ·by_cases hX0 : X = 0
    ·by_cases hka : k < a
     ·have HE2 : Hid (c + 1 = Vd.cntA m a (k + 1)) := by rw [HSk.out]; simp [hX0, hka, Hid]
      have i5 : (k : Int) < (a : Int) := by omega
      subst hX0
      go_wp2
      go_roundw
      case rel => exact ⟨k + 1, c + 1, by go_num, by go_num, by omega, by omega, HU2, HE2⟩
      case measure => simp [intOf]; omega
     ·have HE2 : Hid (c = Vd.cntA m a (k + 1)) := by rw [HSk.out]; simp [hX0, hka, Hid]
      have i5 : ¬ (k : Int) < (a : Int) := by omega
      subst hX0
      go_wp2
      go_roundw
      case rel => exact ⟨k + 1, c, by go_num, rfl, by omega, by omega, HU2, HE2⟩
      case measure => simp [intOf]; omega
    ·have HE2 : Hid (c = Vd.cntA m a (k + 1)) := by rw [HSk.out]; simp [hX, hX0, Hid]
     have hX2 := beq_eq_false_iff_ne.2 hX0
     go_wp2
     go_roundw
     case rel => exact ⟨k + 1, c, by go_num, rfl, by omega, by omega, HU2, HE2⟩
     case measure => simp [intOf]; omega
  ·have hk2 : k = m.length := by omega
   have HRr : Hid (c = Vd.cntA m a m.length) := by rw [HE.out, hk2]; exact rfl
   have i2 : ¬ (k : Int) < (m.length : Int) := by omega
   clear hk2
   go_wp2
   go_ret
   exact ⟨ret_i (by rw [HRr.out]), HU.out⟩
end Go.Proofs.YtcclepohmhdpbabGreatDoor
