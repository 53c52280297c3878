import Derived.Test.YtcclepohmhdpbaaGreatDoorClJ
import Derived.Test.YtcclepohmhdpbaaGreatDoorRfH
import Derived.Deep.Upon
import Derived.BigRegion
import Derived.Deep.DeepCutAuto
import Derived.Test.YtcclepohmhdpbaaGreatDoorWalkC
import Derived.Test.YtcclepohmhdpbaaGreatDoorInv
import Derived.Test.YtcclepohmhdpbaaGreatDoorCdB
/- THE WALKS: package canon: compareRings, comparePolygons, countAhead. -/
namespace Go.Proofs.YtcclepohmhdpbaaGreatDoor
set_option linter.all false
open Go.RowKit Go.Deep

theorem cmpR_cons (p q : Pnt) (t u : Ring) : Vd.cmpR (p :: t) (q :: u) = if Vd.bef q p then 1 else if Vd.bef p q then -1 else Vd.cmpR t u := by rw [Vd.cmpR]
theorem dropc {α : Type} {l : List α} {k : Nat} {x : α} (h : l[k]? = some x) : l.drop k = x :: l.drop (k + 1) := by
  have hk := Pl.lt_of_some h
  rw [List.drop_eq_getElem_cons hk]
  rw [List.getElem?_eq_getElem hk] at h
  rw [Option.some.inj h]
theorem cmpR_left (p : Pnt) (t : Ring) : Vd.cmpR (p :: t) [] = 1 := by rw [Vd.cmpR]
theorem cmpR_end (u : Ring) : Vd.cmpR [] u = if 0 < u.length then -1 else 0 := by cases u <;> simp [Vd.cmpR]
set_option maxRecDepth 8000 in
set_option maxHeartbeats 4000000 in
theorem compareRings_any (v u : Value) (a b : Ring) (w : World) (hv : Rd1 w v a) (hu : Rd1 w u b) (ha : a.length ≤ 1048576) (hb : b.length ≤ 1048576) :
    Calls Tryz.prog 237 #[v, u] w fun e w' => e = .returned (.int .i64 (Vd.cmpR a b)) ∧ Up w w' := by
  obtain ⟨ao, cap, rfl, hm⟩ := hv
  obtain ⟨ao2, cap2, rfl, hm2⟩ := hu
  have HM := hide hm
  have HM2 := hide hm2
  have HX := hide cmpR_cons
  clear hm hm2
  go_enter Tryz.func237, Tryz.ntmps237
  go_wp2
  go_loopw [9] (fun i wr => ∃ k : Nat, i = .int .i64 k ∧ k ≤ a.length ∧ k ≤ b.length ∧ Hid (Up w wr) ∧ Hid (Vd.cmpR a b = Vd.cmpR (a.drop k) (b.drop k))) (fun i _ => a.length - (intOf i).toNat)
  case atStart => exact ⟨0, rfl, Nat.zero_le _, Nat.zero_le _, Up.refl _, rfl⟩
  case round =>
    obtain ⟨k, rfl, hk, hk2, HU, HE⟩ := hrel
    by_cases hlt : k < a.length
    · obtain ⟨⟨px, py⟩, hp⟩ := Pl.some_of_lt hlt
      obtain ⟨g, rfl, c0, c1⟩ := HM.out k _ hp
      rw [dropc hp] at HE
      have e0 := HU.out.cell c0
      have e1 := HU.out.cell c1
      have HUT : Hid (Up wr (wr.alloc (.cells #[.int .i64 px, .int .i64 py] 32))) := (Up.refl _).alloc _
      have RN := hide (new_row (w := wr) (o := .cells #[.int .i64 px, .int .i64 py] 32) (vs := [.int .i64 px, .int .i64 py]) rfl)
      have q0 := RN.out.gr (i := 0) rfl
      have q1 := RN.out.gr (i := 1) rfl
      have i1 : (0 : Int) ≤ (k : Int) := by omega
      have i2 : (k : Int) < (a.length : Int) := by omega
      try dsimp only at e0 e1 q0 q1
      clear hp c0 c1
      by_cases hkb : k = b.length
      · have hkb' : ((k : Int) == (b.length : Int)) = true := beq_iff_eq.2 (by omega)
        have HR : Hid (Vd.cmpR a b = 1) := by rw [HE.out, hkb, List.drop_length, cmpR_left]; exact rfl
        clear hkb
        go_upto_region 4 with fail
        refine wp_region_up (by kernel_rfl) (by kernel_rfl) ?_
        repeat (first | go_big_quiet_step (fail))
        refine wpQuiet_nil ?_
        rintro w3 ⟨⟨_, u3⟩, rfl⟩
        have HU3 := hide (HU.out.trans (HUT.out.trans u3))
        clear u3 e0 e1 q0 q1
        go_wp2
        go_ret
        exact ⟨ret_i HR.out.symm, HU3.out⟩
      · have hkb' : ((k : Int) == (b.length : Int)) = false := beq_eq_false_iff_ne.2 (by omega)
        obtain ⟨⟨qx, qy⟩, hq⟩ := Pl.some_of_lt (show k < b.length by omega)
        obtain ⟨g2, rfl, d0, d1⟩ := HM2.out k _ hq
        rw [dropc hq, HX.out] at HE
        have D0 := hide (HUT.out.cell (HU.out.cell d0))
        have D1 := hide (HUT.out.cell (HU.out.cell d1))
        have g0 := cell_gr D0.out
        have g1 := cell_gr D1.out
        have i3 : (k : Int) < (b.length : Int) := by omega
        have HK : Hid (∀ g : Gr (wr.alloc (.cells #[.int .i64 px, .int .i64 py] 32)), Calls Tryz.prog 236 #[.agg #[.int .i64 qx, .int .i64 qy], .agg #[.int .i64 px, .int .i64 py]] g.v fun e w' => e = .returned (.bool (decide (Vd.bef (qx, qy) (px, py)))) ∧ Up g.v w') := fun g => before_any (qx, qy) (px, py) g.v
        try dsimp only at g0 g1
        clear hq d0 d1 hkb
        generalize hW : wr.alloc (.cells #[.int .i64 px, .int .i64 py] 32) = W at *
        by_cases hb1 : Vd.bef (qx, qy) (px, py)
        · rw [decide_eq_true hb1] at HK
          have HR : Hid (Vd.cmpR a b = 1) := by rw [HE.out, if_pos hb1]; exact rfl
          clear hb1
          go_upto_region 4 with fail
          refine wp_region_up (by kernel_rfl) (by kernel_rfl) ?_
          repeat (first | go_big_quiet_step ((go_at_call 236; exact Calls.up_of (HK.out _))))
          refine wpQuiet_nil ?_
          rintro w3 ⟨⟨_, u3⟩, rfl⟩
          have HU3 := hide (HU.out.trans (HUT.out.trans u3))
          clear u3 e0 e1 q0 q1 g0 g1 HK hW
          go_wp2
          go_ret
          exact ⟨ret_i HR.out.symm, HU3.out⟩
        · rw [decide_eq_false hb1] at HK
          rw [if_neg hb1] at HE
          clear hb1
          go_upto_region 4 with fail
          refine wp_region_up (by kernel_rfl) (by kernel_rfl) ?_
          repeat (first | go_big_quiet_step ((go_at_call 236; exact Calls.up_of (HK.out _))))
          refine wpQuiet_nil ?_
          rintro w3 ⟨⟨_, u3⟩, rfl⟩
          have HU3 := hide (HU.out.trans (HUT.out.trans u3))
          have g0' := cell_gr (u3.cell D0.out)
          have g1' := cell_gr (u3.cell D1.out)
          have q0' := (RN.out.up u3).gr (i := 0) rfl
          have q1' := (RN.out.up u3).gr (i := 1) rfl
          try dsimp only at g0' g1' q0' q1'
          clear u3 e0 e1 q0 q1 g0 g1 HK
          have HK : Hid (∀ g : Gr w3, Calls Tryz.prog 236 #[.agg #[.int .i64 px, .int .i64 py], .agg #[.int .i64 qx, .int .i64 qy]] g.v fun e w' => e = .returned (.bool (decide (Vd.bef (px, py) (qx, qy)))) ∧ Up g.v w') := fun g => before_any (px, py) (qx, qy) g.v
          by_cases hb2 : Vd.bef (px, py) (qx, qy)
          · rw [decide_eq_true hb2] at HK
            have HR : Hid (Vd.cmpR a b = -1) := by rw [HE.out, if_pos hb2]; exact rfl
            clear hb2 hW
            go_upto_region 6 with fail
            refine wp_region_up (by kernel_rfl) (by kernel_rfl) ?_
            repeat (first | go_big_quiet_step ((go_at_call 236; exact Calls.up_of (HK.out _))))
            refine wpQuiet_nil ?_
            rintro w4 ⟨⟨_, u4⟩, rfl⟩
            have HU4 := hide (HU3.out.trans u4)
            clear u4 q0' q1' g0' g1' HK
            go_wp2
            go_ret
            exact ⟨ret_i HR.out.symm, HU4.out⟩
          · rw [decide_eq_false hb2] at HK
            rw [if_neg hb2] at HE
            clear hb2 hW
            go_upto_region 6 with fail
            refine wp_region_up (by kernel_rfl) (by kernel_rfl) ?_
            repeat (first | go_big_quiet_step ((go_at_call 236; exact Calls.up_of (HK.out _))))
            refine wpQuiet_nil ?_
            rintro w4 ⟨⟨_, u4⟩, rfl⟩
            have HU4 := hide (HU3.out.trans u4)
            clear u4 q0' q1' g0' g1' HK
            go_wp2
            go_roundw
            case rel => exact ⟨k + 1, by go_num, by omega, by omega, HU4, HE⟩
            case measure => simp [intOf]; omega
    · have e1 : a.drop k = [] := List.drop_eq_nil_of_le (by omega)
      have hka : k = a.length := by omega
      have i2 : ¬ (k : Int) < (a.length : Int) := by omega
      rw [e1, cmpR_end, List.length_drop] at HE
      clear e1
      by_cases hl : a.length < b.length
      · have HR : Hid (Vd.cmpR a b = -1) := by rw [HE.out, if_pos (by omega)]; exact rfl
        have i3 : (a.length : Int) < (b.length : Int) := by omega
        clear hka
        go_wp2
        go_ret
        exact ⟨ret_i HR.out.symm, HU.out⟩
      · have HR : Hid (Vd.cmpR a b = 0) := by rw [HE.out, if_neg (by omega)]; exact rfl
        have i3 : ¬ (a.length : Int) < (b.length : Int) := by omega
        clear hka
        go_wp2
        go_ret
        exact ⟨ret_i HR.out.symm, HU.out⟩

theorem cmpP_cons (p q : Ring) (t u : Poly) : Vd.cmpP (p :: t) (q :: u) = if Vd.cmpR p q ≠ 0 then Vd.cmpR p q else Vd.cmpP t u := by rw [Vd.cmpP]
theorem cmpP_left (p : Ring) (t : Poly) : Vd.cmpP (p :: t) [] = 1 := by rw [Vd.cmpP]
theorem cmpP_end (u : Poly) : Vd.cmpP [] u = if 0 < u.length then -1 else 0 := by cases u <;> simp [Vd.cmpP]
set_option maxRecDepth 8000 in
set_option maxHeartbeats 4000000 in
theorem comparePolygons_any (v u : Value) (a b : Poly) (w : World) (hv : Rd2 w v a) (hu : Rd2 w u b) (ha : a.length ≤ 1048576) (hb : b.length ≤ 1048576) (hra : ∀ r ∈ a, r.length ≤ 1048576) (hrb : ∀ r ∈ b, r.length ≤ 1048576) :
    Calls Tryz.prog 208 #[v, u] w fun e w' => e = .returned (.int .i64 (Vd.cmpP a b)) ∧ Up w w' := by
  obtain ⟨ao, cap, rfl, hm⟩ := hv
  obtain ⟨ao2, cap2, rfl, hm2⟩ := hu
  have HM := hide hm
  have HM2 := hide hm2
  have HA := hide hra
  have HB := hide hrb
  have HX := hide cmpP_cons
  clear hm hm2 hra hrb
  go_enter Tryz.func208, Tryz.ntmps208
  go_wp2
  go_loopw [10] (fun i wr => ∃ k : Nat, i = .int .i64 k ∧ k ≤ a.length ∧ k ≤ b.length ∧ Hid (Up w wr) ∧ Hid (Vd.cmpP a b = Vd.cmpP (a.drop k) (b.drop k))) (fun i _ => a.length - (intOf i).toNat)
  case atStart => exact ⟨0, rfl, Nat.zero_le _, Nat.zero_le _, Up.refl _, rfl⟩
  case round =>
    obtain ⟨k, rfl, hk, hk2, HU, HE⟩ := hrel
    by_cases hlt : k < a.length
    · obtain ⟨p, hp⟩ := Pl.some_of_lt hlt
      obtain ⟨g, y, rfl, c0, hy⟩ := HM.out k _ hp
      rw [dropc hp] at HE
      have e0 := HU.out.cell c0
      have Hy := hide (hy.up HU.out)
      have Hpl := hide (HA.out p (Pl.mem_of_some hp))
      have i1 : (0 : Int) ≤ (k : Int) := by omega
      have i2 : (k : Int) < (a.length : Int) := by omega
      clear hp c0 hy
      by_cases hkb : k = b.length
      · have hkb' : ((k : Int) == (b.length : Int)) = true := beq_iff_eq.2 (by omega)
        have HR : Hid (Vd.cmpP a b = 1) := by rw [HE.out, hkb, List.drop_length, cmpP_left]; exact rfl
        clear hkb
        go_wp2
        go_ret
        exact ⟨ret_i HR.out.symm, HU.out⟩
      · have hkb' : ((k : Int) == (b.length : Int)) = false := beq_eq_false_iff_ne.2 (by omega)
        obtain ⟨q, hq⟩ := Pl.some_of_lt (show k < b.length by omega)
        obtain ⟨g2, z, rfl, d0, hz⟩ := HM2.out k _ hq
        rw [dropc hq, HX.out] at HE
        have e1 := HU.out.cell d0
        have Hz := hide (hz.up HU.out)
        have Hql := hide (HB.out q (Pl.mem_of_some hq))
        have i3 : (k : Int) < (b.length : Int) := by omega
        clear hq d0 hz hkb
        go_wp2_with fail
        refine (compareRings_any _ _ p q _ Hy.out Hz.out Hpl.out Hql.out).mono ?_
        rintro e w2 ⟨rfl, hu2⟩
        have HU2 := hide (HU.out.trans hu2)
        generalize Vd.cmpR p q = X at *
        clear hu2 e0 e1
        by_cases hX : X = 0
        · rw [if_neg (by simpa using hX)] at HE
          subst hX
          go_wp2
          go_roundw
          case rel => exact ⟨k + 1, by go_num, by omega, by omega, HU2, HE⟩
          case measure => simp [intOf]; omega
        · rw [if_pos hX] at HE
          have hX1 := bne_iff_ne.2 hX
          have hX2 := beq_eq_false_iff_ne.2 hX
          go_wp2
          go_ret
          exact ⟨ret_i HE.out.symm, HU2.out⟩
    · have e1 : a.drop k = [] := List.drop_eq_nil_of_le (by omega)
      have hka : k = a.length := by omega
      have i2 : ¬ (k : Int) < (a.length : Int) := by omega
      rw [e1, cmpP_end, List.length_drop] at HE
      clear e1
      by_cases hl : a.length < b.length
      · have HR : Hid (Vd.cmpP a b = -1) := by rw [HE.out, if_pos (by omega)]; exact rfl
        have i3 : (a.length : Int) < (b.length : Int) := by omega
        clear hka
        go_wp2
        go_ret
        exact ⟨ret_i HR.out.symm, HU.out⟩
      · have HR : Hid (Vd.cmpP a b = 0) := by rw [HE.out, if_neg (by omega)]; exact rfl
        have i3 : ¬ (a.length : Int) < (b.length : Int) := by omega
        clear hka
        go_wp2
        go_ret
        exact ⟨ret_i HR.out.symm, HU.out⟩

theorem cntA_succ (m : Mult) (a n : Nat) : Vd.cntA m a (n + 1) = Vd.cntA m a n + (if Vd.isA m a n = true then 1 else 0) := by
  unfold Vd.cntA; rw [List.range_succ, List.countP_append, List.countP_singleton]
theorem cntA_le (m : Mult) (a : Nat) : ∀ n, Vd.cntA m a n ≤ n := fun n => by unfold Vd.cntA; have := List.countP_le_length (p := Vd.isA m a) (l := List.range n); simpa using this
theorem isA_at {m : Mult} {a i : Nat} {p q : Poly} (hp : m[i]? = some p) (hq : m[a]? = some q) : Vd.isA m a i = (decide (Vd.cmpP p q < 0) || (decide (Vd.cmpP p q = 0) && decide (i < a))) := by unfold Vd.isA; rw [pAt_some hp, pAt_some hq]
set_option maxRecDepth 8000 in
set_option maxHeartbeats 4000000 in
theorem countAhead_any (v : Value) (m : Mult) (a : Nat) (w : World) (hv : Rd3 w v m) (ha : a < m.length) (hm : m.length ≤ 1048576) (hl : ∀ l ∈ m, l.length ≤ 1048576) (hr : ∀ l ∈ m, ∀ r ∈ l, r.length ≤ 1048576) :
    Calls Tryz.prog 168 #[v, .int .i64 a] w fun e w' => e = .returned (.int .i64 (Vd.cntA m a m.length)) ∧ Up w w' := by
  obtain ⟨ao, cap, rfl, hM⟩ := hv
  have HM := hide hM
  have HL := hide hl
  have HR := hide hr
  have HS := hide (fun n => cntA_succ m a n)
  have HLe := hide (fun n => cntA_le m a n)
  obtain ⟨q, hq⟩ := Pl.some_of_lt ha
  obtain ⟨g, z, rfl, d0, hz⟩ := hM a q hq
  have Hq := hide hq
  have D0 := hide d0
  have Hz := hide hz
  have i3 : (0 : Int) ≤ (a : Int) := by omega
  have i4 : (a : Int) < (m.length : Int) := by omega
  clear hM hl hr hq d0 hz
  go_enter Tryz.func168, Tryz.ntmps168
  go_wp2
  go_loopw [5, 11] (fun cv i wr => ∃ k c : Nat, i = .int .i64 k ∧ cv = .int .i64 c ∧ k ≤ m.length ∧ c ≤ k ∧ Hid (Up w wr) ∧ Hid (c = Vd.cntA m a k)) (fun _ i _ => m.length - (intOf i).toNat)
  case atStart => exact ⟨0, 0, rfl, rfl, Nat.zero_le _, Nat.zero_le _, Up.refl _, rfl⟩
  case round =>
    obtain ⟨k, c, rfl, rfl, hk, hck, HU, HE⟩ := hrel
    by_cases hlt : k < m.length
    · obtain ⟨p, hp⟩ := Pl.some_of_lt hlt
      obtain ⟨g', y, e', c0, hy⟩ := HM.out k _ hp
      cases e'
      have e0 := HU.out.cell c0
      have e1 := HU.out.cell D0.out
      have Hy := hide (hy.up HU.out)
      have Hz2 := hide (Hz.out.up HU.out)
      have HI := hide (isA_at hp Hq.out)
      have Hpm := hide (Pl.mem_of_some hp)
      have Hqm := hide (Pl.mem_of_some Hq.out)
      have i1 : (0 : Int) ≤ (k : Int) := by omega
      have i2 : (k : Int) < (m.length : Int) := by omega
      clear hp c0 hy
      go_wp2_with fail
      refine (comparePolygons_any _ _ p q _ Hy.out Hz2.out (HL.out p Hpm.out) (HL.out q Hqm.out) (HR.out p Hpm.out) (HR.out q Hqm.out)).mono ?_
      rintro e w2 ⟨rfl, hu2⟩
      have HU2 := hide (HU.out.trans hu2)
      generalize Vd.cmpP p q = X at *
      clear hu2 e0 e1
      have HSk := hide (HS.out k)
      rw [HI.out, ← HE.out] at HSk
      by_cases hX : X < 0
      · have HE2 : Hid (c + 1 = Vd.cntA m a (k + 1)) := by rw [HSk.out]; simp [hX, Hid]
        go_wp2
        go_roundw
        case rel => exact ⟨k + 1, c + 1, by go_num, by go_num, by omega, by omega, HU2, HE2⟩
        case measure => simp [intOf]; omega
      · by_cases hX0 : X = 0
        · by_cases hka : k < a
          · have HE2 : Hid (c + 1 = Vd.cntA m a (k + 1)) := by rw [HSk.out]; simp [hX0, hka, Hid]
            have i5 : (k : Int) < (a : Int) := by omega
            subst hX0
            go_wp2
            go_roundw
            case rel => exact ⟨k + 1, c + 1, by go_num, by go_num, by omega, by omega, HU2, HE2⟩
            case measure => simp [intOf]; omega
          · have HE2 : Hid (c = Vd.cntA m a (k + 1)) := by rw [HSk.out]; simp [hX0, hka, Hid]
            have i5 : ¬ (k : Int) < (a : Int) := by omega
            subst hX0
            go_wp2
            go_roundw
            case rel => exact ⟨k + 1, c, by go_num, rfl, by omega, by omega, HU2, HE2⟩
            case measure => simp [intOf]; omega
        · have HE2 : Hid (c = Vd.cntA m a (k + 1)) := by rw [HSk.out]; simp [hX, hX0, Hid]
          have hX2 := beq_eq_false_iff_ne.2 hX0
          go_wp2
          go_roundw
          case rel => exact ⟨k + 1, c, by go_num, rfl, by omega, by omega, HU2, HE2⟩
          case measure => simp [intOf]; omega
    · have hk2 : k = m.length := by omega
      have HRr : Hid (c = Vd.cntA m a m.length) := by rw [HE.out, hk2]; exact rfl
      have i2 : ¬ (k : Int) < (m.length : Int) := by omega
      clear hk2
      go_wp2
      go_ret
      exact ⟨ret_i (by rw [HRr.out]), HU.out⟩
end Go.Proofs.YtcclepohmhdpbaaGreatDoor

/- THE DOCUMENT's WALKS: less, first. -/
namespace Go.Proofs.YtcclepohmhdpbaaGreatDoor
set_option linter.all false
open Go.RowKit Go.Deep

theorem cmpR_x {px py qx qy : Int} (t u : Ring) (h : px ≠ qx) : decide (Vd.cmpR ((px, py) :: t) ((qx, qy) :: u) < 0) = decide (px < qx) := by
  rw [cmpR_cons]
  apply decide_eq_decide.2
  by_cases c : Vd.bef (qx, qy) (px, py)
  · rw [if_pos c]; unfold Vd.bef at c; simp only at c; omega
  · rw [if_neg c]
    by_cases d : Vd.bef (px, py) (qx, qy)
    · rw [if_pos d]; unfold Vd.bef at d; simp only at d; omega
    · exfalso; unfold Vd.bef at c d; simp only at c d; omega
theorem cmpR_y {px py qy : Int} (t u : Ring) (h : py ≠ qy) : decide (Vd.cmpR ((px, py) :: t) ((px, qy) :: u) < 0) = decide (py < qy) := by
  rw [cmpR_cons]
  apply decide_eq_decide.2
  by_cases c : qy < py
  · rw [if_pos (show Vd.bef (px, qy) (px, py) from .inr ⟨rfl, c⟩)]; omega
  · rw [if_neg (fun k => by rcases k with k | ⟨-, k⟩ <;> simp only at k <;> omega), if_pos (show Vd.bef (px, py) (px, qy) from .inr ⟨rfl, by show py < qy; omega⟩)]; omega
theorem cmpR_same (p : Pnt) (t u : Ring) : Vd.cmpR (p :: t) (p :: u) = Vd.cmpR t u := by
  rw [cmpR_cons, if_neg (by unfold Vd.bef; omega), if_neg (by unfold Vd.bef; omega)]
theorem cmpR_ends {a b : Ring} (h : a = [] ∨ b = []) : decide (Vd.cmpR a b < 0) = decide (a.length < b.length) := by
  cases a with
  | nil => cases b <;> simp [Vd.cmpR]
  | cons p t =>
    cases b with
    | nil => simp [Vd.cmpR]
    | cons q u => simp at h
set_option maxRecDepth 8000 in
set_option maxHeartbeats 4000000 in
theorem less_any (v u : Value) (a b : Ring) (w : World) (hv : Rd1 w v a) (hu : Rd1 w u b) (ha : a.length ≤ 1048576) (hb : b.length ≤ 1048576) :
    Calls Tryz.prog 54 #[v, u] w fun e w' => e = .returned (.bool (decide (Vd.cmpR a b < 0))) ∧ Up w w' := by
  obtain ⟨ao, cap, rfl, hm⟩ := hv
  obtain ⟨ao2, cap2, rfl, hm2⟩ := hu
  have HM := hide hm
  have HM2 := hide hm2
  clear hm hm2
  go_enter Tryz.func54, Tryz.ntmps54
  go_wp2
  go_loopw [5] (fun i wr => ∃ k : Nat, i = .int .i64 k ∧ k ≤ a.length ∧ k ≤ b.length ∧ Hid (Up w wr) ∧ Hid (Vd.cmpR a b = Vd.cmpR (a.drop k) (b.drop k))) (fun i _ => a.length - (intOf i).toNat)
  case atStart => exact ⟨0, rfl, Nat.zero_le _, Nat.zero_le _, Up.refl _, rfl⟩
  case round =>
    obtain ⟨k, rfl, hk, hk2, HU, HE⟩ := hrel
    have i1 : (0 : Int) ≤ (k : Int) := by omega
    by_cases hlt : k < a.length ∧ k < b.length
    · obtain ⟨⟨px, py⟩, hp⟩ := Pl.some_of_lt hlt.1
      obtain ⟨⟨qx, qy⟩, hq⟩ := Pl.some_of_lt hlt.2
      obtain ⟨g, rfl, c0, c1⟩ := HM.out k _ hp
      obtain ⟨g2, rfl, d0, d1⟩ := HM2.out k _ hq
      rw [dropc hp, dropc hq] at HE
      have C1 := hide (HU.out.cell c1)
      have D1 := hide (HU.out.cell d1)
      have e0 := cell_gr (HU.out.cell c0)
      have f0 := cell_gr (HU.out.cell d0)
      have C0 := hide (HU.out.cell c0)
      have D0 := hide (HU.out.cell d0)
      have i2 : (k : Int) < (a.length : Int) := by omega
      have i3 : (k : Int) < (b.length : Int) := by omega
      try dsimp only at e0 f0
      clear hp hq c0 c1 d0 d1
      go_upto_region 4 with fail
      refine wp_region_up (by kernel_rfl) (by kernel_rfl) ?_
      repeat (first | go_big_quiet_step (fail))
      refine wpQuiet_nil ?_
      rintro w3 ⟨⟨_, u3⟩, rfl⟩
      have HU3 := hide (HU.out.trans u3)
      have HA3 := hide u3
      clear u3 e0 f0
      by_cases hx : px = qx
      · subst hx
        have e1 := cell_gr (HA3.out.cell C1.out)
        have f1 := cell_gr (HA3.out.cell D1.out)
        try dsimp only at e1 f1
        go_upto_region 6 with fail
        refine wp_region_up (by kernel_rfl) (by kernel_rfl) ?_
        repeat (first | go_big_quiet_step (fail))
        refine wpQuiet_nil ?_
        rintro w4 ⟨⟨_, u4⟩, rfl⟩
        have HU4 := hide (HU3.out.trans u4)
        have HA4 := hide (HA3.out.trans u4)
        clear e1 f1 u4
        by_cases hy : py = qy
        · subst hy
          rw [cmpR_same] at HE
          go_wp2
          go_roundw
          case rel => exact ⟨k + 1, by go_num, by omega, by omega, HU4, HE⟩
          case measure => simp [intOf]; omega
        · have HR : Hid (decide (Vd.cmpR a b < 0) = decide (py < qy)) := by rw [HE.out]; exact cmpR_y _ _ hy
          have hy1 := bne_iff_ne.2 hy
          have hy2 := beq_eq_false_iff_ne.2 hy
          have e1 := cell_gr (HA4.out.cell C1.out)
          have f1 := cell_gr (HA4.out.cell D1.out)
          try dsimp only at e1 f1
          go_upto_region 7 with fail
          refine wp_region_up (by kernel_rfl) (by kernel_rfl) ?_
          repeat (first | go_big_quiet_step (fail))
          refine wpQuiet_nil ?_
          rintro w5 ⟨⟨_, u5⟩, rfl⟩
          have HU5 := hide (HU4.out.trans u5)
          clear e1 f1 u5
          go_wp2
          go_ret
          exact ⟨ret_b (by rw [HR.out]), HU5.out⟩
      · have HR : Hid (decide (Vd.cmpR a b < 0) = decide (px < qx)) := by rw [HE.out]; exact cmpR_x _ _ hx
        have hx1 := bne_iff_ne.2 hx
        have hx2 := beq_eq_false_iff_ne.2 hx
        have e1 := cell_gr (HA3.out.cell C0.out)
        have f1 := cell_gr (HA3.out.cell D0.out)
        try dsimp only at e1 f1
        go_upto_region 5 with fail
        refine wp_region_up (by kernel_rfl) (by kernel_rfl) ?_
        repeat (first | go_big_quiet_step (fail))
        refine wpQuiet_nil ?_
        rintro w5 ⟨⟨_, u5⟩, rfl⟩
        have HU5 := hide (HU3.out.trans u5)
        clear e1 f1 u5
        go_wp2
        go_ret
        exact ⟨ret_b (by rw [HR.out]), HU5.out⟩
    · have HR : Hid (decide (Vd.cmpR a b < 0) = decide (a.length < b.length)) := by
        rw [HE.out, cmpR_ends (by
          rcases Nat.lt_or_ge k a.length with g | g
          · exact .inr (List.drop_eq_nil_of_le (by omega))
          · exact .inl (List.drop_eq_nil_of_le g)), List.length_drop, List.length_drop]
        exact decide_eq_decide.2 (by omega)
      by_cases g : k < a.length
      · have i2 : (k : Int) < (a.length : Int) := by omega
        have i3 : ¬ (k : Int) < (b.length : Int) := by omega
        go_wp2
        go_ret
        exact ⟨ret_b (by rw [HR.out]), HU.out⟩
      · have i2 : ¬ (k : Int) < (a.length : Int) := by omega
        go_wp2
        go_ret
        exact ⟨ret_b (by rw [HR.out]), HU.out⟩

theorem cmpP_x {p q : Ring} (t u : Poly) (h : Vd.cmpR p q ≠ 0) : Vd.cmpP (p :: t) (q :: u) = Vd.cmpR p q := by rw [cmpP_cons, if_pos h]
theorem cmpP_same {p q : Ring} (t u : Poly) (h : Vd.cmpR p q = 0) : Vd.cmpP (p :: t) (q :: u) = Vd.cmpP t u := by rw [cmpP_cons, if_neg (by omega)]
theorem cmpP_ends {a b : Poly} (h : a = [] ∨ b = []) : decide (Vd.cmpP a b < 0) = decide (a.length < b.length) := by
  cases a with
  | nil => cases b <;> simp [Vd.cmpP]
  | cons p t =>
    cases b with
    | nil => simp [Vd.cmpP]
    | cons q u => simp at h
set_option maxRecDepth 8000 in
set_option maxHeartbeats 4000000 in
theorem first_any (anti : ∀ p q, Vd.cmpR p q = -(Vd.cmpR q p)) (v u : Value) (a b : Poly) (w : World) (hv : Rd2 w v a) (hu : Rd2 w u b) (ha : a.length ≤ 1048576) (hb : b.length ≤ 1048576) (hra : ∀ r ∈ a, r.length ≤ 1048576) (hrb : ∀ r ∈ b, r.length ≤ 1048576) :
    Calls Tryz.prog 96 #[v, u] w fun e w' => e = .returned (.bool (decide (Vd.cmpP a b < 0))) ∧ Up w w' := by
  obtain ⟨ao, cap, rfl, hm⟩ := hv
  obtain ⟨ao2, cap2, rfl, hm2⟩ := hu
  have HM := hide hm
  have HM2 := hide hm2
  have HA := hide hra
  have HB := hide hrb
  have HN := hide anti
  clear hm hm2 hra hrb anti
  go_enter Tryz.func96, Tryz.ntmps96
  go_wp2
  go_loopw [5] (fun i wr => ∃ k : Nat, i = .int .i64 k ∧ k ≤ a.length ∧ k ≤ b.length ∧ Hid (Up w wr) ∧ Hid (Vd.cmpP a b = Vd.cmpP (a.drop k) (b.drop k))) (fun i _ => a.length - (intOf i).toNat)
  case atStart => exact ⟨0, rfl, Nat.zero_le _, Nat.zero_le _, Up.refl _, rfl⟩
  case round =>
    obtain ⟨k, rfl, hk, hk2, HU, HE⟩ := hrel
    have i1 : (0 : Int) ≤ (k : Int) := by omega
    by_cases hlt : k < a.length ∧ k < b.length
    · obtain ⟨p, hp⟩ := Pl.some_of_lt hlt.1
      obtain ⟨q, hq⟩ := Pl.some_of_lt hlt.2
      obtain ⟨g, y, rfl, c0, hy⟩ := HM.out k _ hp
      obtain ⟨g2, z, rfl, d0, hz⟩ := HM2.out k _ hq
      rw [dropc hp, dropc hq] at HE
      have C0 := hide (HU.out.cell c0)
      have D0 := hide (HU.out.cell d0)
      have e0 := cell_gr C0.out
      have f0 := cell_gr D0.out
      have Hy := hide (hy.up HU.out)
      have Hz := hide (hz.up HU.out)
      have Hpl := hide (HA.out p (Pl.mem_of_some hp))
      have Hql := hide (HB.out q (Pl.mem_of_some hq))
      have HK1 : Hid (∀ g : Gr wr, Calls Tryz.prog 54 #[y, z] g.v fun e w' => e = .returned (.bool (decide (Vd.cmpR p q < 0))) ∧ Up g.v w') := fun g => less_any y z p q _ (Hy.out.up g.up) (Hz.out.up g.up) Hpl.out Hql.out
      have i2 : (k : Int) < (a.length : Int) := by omega
      have i3 : (k : Int) < (b.length : Int) := by omega
      try dsimp only at e0 f0
      clear hp hq c0 d0 hy hz
      go_upto_region 4 with fail
      refine wp_region_up (by kernel_rfl) (by kernel_rfl) ?_
      repeat (first | go_big_quiet_step ((go_at_call 54; exact Calls.up_of (HK1.out _))))
      refine wpQuiet_nil ?_
      rintro w3 ⟨⟨_, u3⟩, rfl⟩
      have HU3 := hide (HU.out.trans u3)
      have e1 := cell_gr (u3.cell C0.out)
      have f1 := cell_gr (u3.cell D0.out)
      have HK2 : Hid (∀ g : Gr w3, Calls Tryz.prog 54 #[z, y] g.v fun e w' => e = .returned (.bool (decide (Vd.cmpR q p < 0))) ∧ Up g.v w') := fun g => less_any z y q p _ ((Hz.out.up u3).up g.up) ((Hy.out.up u3).up g.up) Hql.out Hpl.out
      have HNk := hide (HN.out q p)
      try dsimp only at e1 f1
      clear u3 e0 f0 HK1
      rcases (show Vd.cmpR p q < 0 ∨ Vd.cmpR p q = 0 ∨ 0 < Vd.cmpR p q by omega) with c | c | c
      · have HR : Hid (decide (Vd.cmpP a b < 0) = true) := by rw [HE.out, cmpP_x _ _ (by omega)]; exact decide_eq_true c
        rw [decide_eq_true c]
        rw [decide_eq_false (show ¬ Vd.cmpR q p < 0 by rw [HNk.out]; omega)] at HK2
        clear c
        go_upto_region 5 with fail
        refine wp_region_up (by kernel_rfl) (by kernel_rfl) ?_
        repeat (first | go_big_quiet_step ((go_at_call 54; exact Calls.up_of (HK2.out _))))
        refine wpQuiet_nil ?_
        rintro w4 ⟨⟨_, u4⟩, rfl⟩
        have HU4 := hide (HU3.out.trans u4)
        clear u4 e1 f1 HK2
        go_wp2
        go_ret
        exact ⟨ret_b HR.out.symm, HU4.out⟩
      · rw [cmpP_same _ _ c] at HE
        rw [decide_eq_false (show ¬ Vd.cmpR p q < 0 by omega)]
        rw [decide_eq_false (show ¬ Vd.cmpR q p < 0 by rw [HNk.out]; omega)] at HK2
        clear c
        go_upto_region 5 with fail
        refine wp_region_up (by kernel_rfl) (by kernel_rfl) ?_
        repeat (first | go_big_quiet_step ((go_at_call 54; exact Calls.up_of (HK2.out _))))
        refine wpQuiet_nil ?_
        rintro w4 ⟨⟨_, u4⟩, rfl⟩
        have HU4 := hide (HU3.out.trans u4)
        clear u4 e1 f1 HK2
        go_wp2
        go_roundw
        case rel => exact ⟨k + 1, by go_num, by omega, by omega, HU4, HE⟩
        case measure => simp [intOf]; omega
      · have HR : Hid (decide (Vd.cmpP a b < 0) = false) := by rw [HE.out, cmpP_x _ _ (by omega)]; exact decide_eq_false (by omega)
        rw [decide_eq_false (show ¬ Vd.cmpR p q < 0 by omega)]
        rw [decide_eq_true (show Vd.cmpR q p < 0 by rw [HNk.out]; omega)] at HK2
        clear c
        go_upto_region 5 with fail
        refine wp_region_up (by kernel_rfl) (by kernel_rfl) ?_
        repeat (first | go_big_quiet_step ((go_at_call 54; exact Calls.up_of (HK2.out _))))
        refine wpQuiet_nil ?_
        rintro w4 ⟨⟨_, u4⟩, rfl⟩
        have HU4 := hide (HU3.out.trans u4)
        clear u4 e1 f1 HK2
        go_wp2
        go_ret
        exact ⟨ret_b HR.out.symm, HU4.out⟩
    · have HR : Hid (decide (Vd.cmpP a b < 0) = decide (a.length < b.length)) := by
        rw [HE.out, cmpP_ends (by
          rcases Nat.lt_or_ge k a.length with g | g
          · exact .inr (List.drop_eq_nil_of_le (by omega))
          · exact .inl (List.drop_eq_nil_of_le g)), List.length_drop, List.length_drop]
        exact decide_eq_decide.2 (by omega)
      by_cases g : k < a.length
      · have i2 : (k : Int) < (a.length : Int) := by omega
        have i3 : ¬ (k : Int) < (b.length : Int) := by omega
        go_wp2
        go_ret
        exact ⟨ret_b (by rw [HR.out]), HU.out⟩
      · have i2 : ¬ (k : Int) < (a.length : Int) := by omega
        go_wp2
        go_ret
        exact ⟨ret_b (by rw [HR.out]), HU.out⟩
end Go.Proofs.YtcclepohmhdpbaaGreatDoor

/- THE DOCUMENT's WALKS: round. -/
namespace Go.Proofs.YtcclepohmhdpbaaGreatDoor
set_option linter.all false
open Go.RowKit Go.Deep

theorem ptAt_of1 {r : Ring} {i : Nat} {p : Pnt} (h : r[i]? = some p) : Vd.ptAt r i = p := by unfold Vd.ptAt; rw [List.getD_eq_getElem?_getD, h]; rfl
/-- Some at once. -/
theorem wpList_appN {P : Program} {t e : TypeId} {z : Value} {size bytes : Nat} (E0 : Elem P t e z size bytes) {ops : Array Oper} {rest : List Oper} {o : Oper} {a : Act} {w : World} {Q : Exit → Act → World → Prop} (hgd : o.guard = none) (s x : Operand)
    (ho : o.op = .call { callee := .builtin .append, args := #[s, x], argTypes := #[t, t] }) (base : Nat) (v : Value) (n : Nat) (xs : List Value) (hs : a.eval s = v) (hown : w.ownsRow base e size v n xs)
    (ad : Addr) (m c : Nat) (news : List Value) (hx : a.eval x = .slice (some ad) m c) (hl : news.length = m * size) (hnews : ∀ j u, news[j]? = some u → w.cell? (ad.add j) = some u) (h1 : ∀ u ∈ news, u.oneCell' = true) (hm : 0 < m)
    (hn : n + m ≤ 1073741824) (hbase : base ≤ w.heap.size)
    (h : ∀ g cap w', w'.ownsRow base e size (.slice (some ⟨g, 0, none⟩) (n + m) cap) (n + m) (xs ++ news) → w.grownBy w' v.ownBlock → (v.ownBlock = some g ∨ g = w.heap.size) → g < w'.heap.size → wpList P ops Q rest (a.put o.dst (.slice (some ⟨g, 0, none⟩) (n + m) cap)) w') :
    wpList P ops Q (o :: rest) a w := by
  obtain ⟨i, hi, hzz⟩ := Option.map_eq_some_iff.1 E0.info
  simp only [Prod.mk.injEq] at hzz
  obtain ⟨z1, z2, z3⟩ := hzz
  refine wpList_append_lies w hgd s x t ho base e i z size bytes E0.und hi z1 z2 z3 E0.zs E0.pos v n xs hs hown ad m c news hx hl hnews h1 hm (by unfold maxLen; omega) ?_ hbase w.heap.size rfl h
  have := E0.small
  have h2 : (n + m) * bytes ≤ (n + m) * 4096 := Nat.mul_le_mul_left _ this
  omega
/-- Nothing is appended. -/
theorem wpList_app0 {P : Program} {t e : TypeId} {z : Value} {size bytes : Nat} (E0 : Elem P t e z size bytes) {ops : Array Oper} {rest : List Oper} {o : Oper} {a : Act} {w : World} {Q : Exit → Act → World → Prop} (hgd : o.guard = none) (s x : Operand)
    (ho : o.op = .call { callee := .builtin .append, args := #[s, x], argTypes := #[t, t] }) (ao : Option Addr) (n cap : Nat) (hle : n ≤ cap) (hs : a.eval s = .slice ao n cap) (ad : Addr) (c : Nat) (hx : a.eval x = .slice (some ad) 0 c)
    (h : wpList P ops Q rest (a.put o.dst (.slice ao n cap)) w) : wpList P ops Q (o :: rest) a w := by
  obtain ⟨i, hi, hzz⟩ := Option.map_eq_some_iff.1 E0.info
  refine wpList_plain hgd fun K hK => ?_
  have hrun := run_append_nothing (P := P) w t t o.type e i E0.und hi ao n cap hle _ (Src.ofSlice w E0.und ad 0 c [] (by simp) (by simp) (by simp))
  unfold Oper.wp
  simp [execOp, ho, resolve, invoke, builtin, hs, hx, hrun, Result.andThen]
  exact hK _ _ h
theorem own_cap {w : World} {base : Nat} {e : TypeId} {size g n cap : Nat} {xs : List Value} (h : w.ownsRow base e size (.slice (some ⟨g, 0, none⟩) n cap) n xs) : n ≤ cap := by
  rcases h.2 with ⟨h', _⟩ | ⟨g', cap', cur, h', hb, hg, hnc, _⟩
  · cases h'
  · cases h'; exact hnc
theorem PRcell {w : World} {base g cap : Nat} {l : Ring} (h : w.ownsRow base 32 2 (.slice (some ⟨g, 0, none⟩) l.length cap) l.length (flat l)) {i : Nat} {p : Pnt} (hi : l[i]? = some p) : w.cell? ⟨g, i * 2, none⟩ = some (.int .i64 p.1) ∧ w.cell? ⟨g, i * 2 + 1, none⟩ = some (.int .i64 p.2) := by
  obtain ⟨g', cap', e', hc⟩ := own_cell h (by have := Pl.lt_of_some hi; omega)
  cases e'
  exact ⟨hc _ _ (flat_at l i p hi).1, hc _ _ (flat_at l i p hi).2⟩
theorem addr_add2 (b off k : Nat) : (⟨b, off, none⟩ : Addr).add k = ⟨b, off + k, none⟩ := by unfold Addr.add; split <;> simp_all
theorem flat_drop (l : Ring) : ∀ f, flat (l.drop f) = (flat l).drop (f * 2) := by
  induction l with
  | nil => intro f; simp [flat]
  | cons p t ih =>
    intro f
    cases f with
    | zero => rfl
    | succ f => rw [List.drop_succ_cons, ih f, flat_cons, show (f + 1) * 2 = f * 2 + 1 + 1 by omega]; rfl
theorem flat_takeN (l : Ring) : ∀ f, flat (l.take f) = (flat l).take (f * 2) := by
  induction l with
  | nil => intro f; simp [flat]
  | cons p t ih =>
    intro f
    cases f with
    | zero => rfl
    | succ f => rw [List.take_succ_cons, flat_cons, ih f, flat_cons, show (f + 1) * 2 = f * 2 + 1 + 1 by omega]; rfl
set_option maxRecDepth 8000 in
set_option maxHeartbeats 8000000 in
theorem round_any {base : Nat} (v : Value) (l : Ring) (w : World) (hv : w.ownsRow base 32 2 v l.length (flat l)) (hl : l.length ≤ 1048576) (h1 : 1 ≤ l.length) :
    Calls Tryz.prog 95 #[v] w fun e w' => ∃ u, e = .returned u ∧ Up w w' ∧ w'.ownsRow w.heap.size 32 2 u (Vd.roundD l).length (flat (Vd.roundD l)) := by
  have hrd := own_rd1 hv
  have HV0 := hide hv
  obtain ⟨g, cap, cur, rfl, hb, hh, hcap, hmx, hcs, hcu⟩ : ∃ g cap cur, v = .slice (some ⟨g, 0, none⟩) l.length cap ∧ base ≤ g ∧ w.heap[g]? = some (.cells cur 32 (0, 0)) ∧ l.length ≤ cap ∧ cap ≤ maxLen ∧ cur.size = cap * 2 ∧ cur.toList.take (l.length * 2) = flat l := by
    rcases hv.2 with ⟨rfl, h0⟩ | h
    · omega
    · exact h
  obtain ⟨ao, cap', e', hm⟩ := hrd
  cases e'
  have HM := hide hm
  have HS := hide (fun n => Vd.leastN_s l n)
  have HLe := hide (fun n => Vd.leastN_b l n)
  have HD : Hid (Vd.leastI l = Vd.leastN l l.length) := rfl
  have HRo : Hid (Vd.roundD l = l.drop (Vd.leastI l) ++ l.take (Vd.leastI l) ++ [Vd.ptAt l (Vd.leastI l)]) := rfl
  have HH := hide hh
  have HCu := hide hcu
  have HCs := hide hcs
  clear hm hv hh hcu hcs hmx hb
  go_enter Tryz.func95, Tryz.ntmps95
  go_wp2
  go_loopw [3, 4] (fun fv i wr => ∃ (k f : Nat), i = .int .i64 k ∧ fv = .int .i64 f ∧ k ≤ l.length ∧ f ≤ k ∧ Hid (Up w wr) ∧ Hid (f = Vd.leastN l k)) (fun _ i _ => l.length - (intOf i).toNat)
  case atStart => exact ⟨0, 0, rfl, rfl, Nat.zero_le _, Nat.le_refl _, Up.refl _, rfl⟩
  case round =>
    obtain ⟨k, f, rfl, rfl, hk, hfk, HU, HF⟩ := hrel
    by_cases hlt : k < l.length
    · obtain ⟨⟨px, py⟩, hp⟩ := Pl.some_of_lt hlt
      have hfl : f < l.length := by have := HLe.out k; rw [← HF.out] at this; omega
      obtain ⟨⟨qx, qy⟩, hq⟩ := Pl.some_of_lt hfl
      obtain ⟨b, e', c0, c1⟩ := HM.out k _ hp
      cases e'
      obtain ⟨b', e', d0, d1⟩ := HM.out f _ hq
      cases e'
      have e0 := cell_gr (HU.out.cell c0)
      have e1 := cell_gr (HU.out.cell c1)
      have g0 := cell_gr (HU.out.cell d0)
      have g1 := cell_gr (HU.out.cell d1)
      have HSk : Hid (Vd.leastN l (k + 1) = if Vd.bef (px, py) (qx, qy) then k else f) := by
        rw [HS.out, ← HF.out]; unfold Vd.leastS; rw [ptAt_of1 hp, ptAt_of1 hq]; exact rfl
      have i1 : (0 : Int) ≤ (k : Int) := by omega
      have i2 : (k : Int) < (l.length : Int) := by omega
      have i3 : (0 : Int) ≤ (f : Int) := by omega
      have i4 : (f : Int) < (l.length : Int) := by omega
      try dsimp only at e0 e1 g0 g1
      clear hp hq c0 c1 d0 d1
      have hcs : (px < qx ∧ Vd.bef (px, py) (qx, qy)) ∨ (¬ px < qx ∧ px ≠ qx ∧ ¬ Vd.bef (px, py) (qx, qy)) ∨ (¬ px < qx ∧ px = qx ∧ py < qy ∧ Vd.bef (px, py) (qx, qy)) ∨ (¬ px < qx ∧ px = qx ∧ ¬ py < qy ∧ ¬ Vd.bef (px, py) (qx, qy)) := by
        unfold Vd.bef; simp only; omega
      rcases hcs with ⟨a1, a2⟩ | ⟨a1, a3, a2⟩ | ⟨a1, a3, a4, a2⟩ | ⟨a1, a3, a4, a2⟩
      · rw [if_pos a2] at HSk
        clear a2
        go_upto_region 5 with fail
        refine wp_region_up (by kernel_rfl) (by kernel_rfl) ?_
        repeat (first | go_big_quiet_step (fail))
        refine wpQuiet_nil ?_
        rintro w3 ⟨⟨_, u3⟩, rfl⟩
        have HU3 := hide (HU.out.trans u3)
        clear u3 e0 e1 g0 g1
        go_wp2
        go_roundw
        case rel => exact ⟨k + 1, k, by go_num, rfl, by omega, by omega, HU3, HSk.out.symm⟩
        case measure => simp [intOf]; omega
      · rw [if_neg a2] at HSk
        have a5 := beq_eq_false_iff_ne.2 a3
        clear a2
        go_upto_region 5 with fail
        refine wp_region_up (by kernel_rfl) (by kernel_rfl) ?_
        repeat (first | go_big_quiet_step (fail))
        refine wpQuiet_nil ?_
        rintro w3 ⟨⟨_, u3⟩, rfl⟩
        have HU3 := hide (HU.out.trans u3)
        clear u3 e0 e1 g0 g1
        go_wp2
        go_roundw
        case rel => exact ⟨k + 1, f, by go_num, rfl, by omega, by omega, HU3, HSk.out.symm⟩
        case measure => simp [intOf]; omega
      · rw [if_pos a2] at HSk
        subst a3
        clear a2
        go_upto_region 5 with fail
        refine wp_region_up (by kernel_rfl) (by kernel_rfl) ?_
        repeat (first | go_big_quiet_step (fail))
        refine wpQuiet_nil ?_
        rintro w3 ⟨⟨_, u3⟩, rfl⟩
        have HU3 := hide (HU.out.trans u3)
        clear u3 e0 e1 g0 g1
        go_wp2
        go_roundw
        case rel => exact ⟨k + 1, k, by go_num, rfl, by omega, by omega, HU3, HSk.out.symm⟩
        case measure => simp [intOf]; omega
      · rw [if_neg a2] at HSk
        subst a3
        clear a2
        go_upto_region 5 with fail
        refine wp_region_up (by kernel_rfl) (by kernel_rfl) ?_
        repeat (first | go_big_quiet_step (fail))
        refine wpQuiet_nil ?_
        rintro w3 ⟨⟨_, u3⟩, rfl⟩
        have HU3 := hide (HU.out.trans u3)
        clear u3 e0 e1 g0 g1
        go_wp2
        go_roundw
        case rel => exact ⟨k + 1, f, by go_num, rfl, by omega, by omega, HU3, HSk.out.symm⟩
        case measure => simp [intOf]; omega
    · have hk2 : k = l.length := by omega
      have HFl : Hid (Vd.leastI l = f) := by rw [HD.out, HF.out, hk2]; exact rfl
      have hfl : f < l.length := by have := HLe.out k; rw [← HF.out] at this; omega
      rw [HFl.out] at HRo
      have i9 : ¬ (k : Int) < (l.length : Int) := by omega
      clear hk2
      have i3 : (0 : Int) ≤ (f : Int) := by omega
      have i4 : (f : Int) < (l.length : Int) := by omega
      have i5 : (f : Int) ≤ (l.length : Int) := by omega
      have i6 : (f : Int) ≤ (cap : Int) := by omega
      obtain ⟨⟨qx, qy⟩, hq⟩ := Pl.some_of_lt hfl
      have HPt : Hid (Vd.ptAt l f = (qx, qy)) := ptAt_of1 hq
      have QC := hide (PRcell HV0.out hq)
      have HV1 := hide (own_up HV0.out HU.out)
      have HN1 : Hid (∀ j u, (flat (l.drop f))[j]? = some u → wr.cell? ((⟨g, f * 2, none⟩ : Addr).add j) = some u) := fun j u hu => by
        rw [flat_drop, List.getElem?_drop] at hu
        rw [addr_add2]
        obtain ⟨g', cap', e', hc⟩ := own_cell HV1.out (by omega)
        cases e'
        exact hc _ _ hu
      have hb : Hid (w.heap.size ≤ wr.heap.size) := HU.out.size
      have hL1 : (flat (l.drop f)).length = (l.length - f) * 2 := by rw [flat_length, List.length_drop]
      have HL1 := hide hL1
      have k1 : IntKind.i64.wrap ((l.length : Int) - (f : Int)) = (l.length : Int) - (f : Int) := wrap_id (by omega) (by omega)
      have k2 : ((l.length : Int) - (f : Int)).toNat = l.length - f := by omega
      have HOne := hide (fun (x : Ring) => flat_one x)
      have HOwn0 : Hid (wr.ownsRow w.heap.size 32 2 (.slice none 0 0) 0 []) := World.ownsRow_nil _ _ _ _
      have hmp : Hid (0 < l.length - f ∧ 0 + (l.length - f) ≤ 1073741824) := by show _ ∧ _; omega
      clear hq hL1
      go_upto_region 9 with (at_builtin; refine wpList_appN el_pts rfl (.tmp 50) (.tmp 53) rfl w.heap.size _ _ _ (by rfl) HOwn0.out ⟨g, f * 2, none⟩ (l.length - f) _ (flat (l.drop f)) (by rfl) HL1.out HN1.out (HOne.out _) hmp.out.1 hmp.out.2 hb.out ?_; intro g5 cap5 w5 hown5 hg5 hat5 hlt5; have HO5 := hide hown5; have HG5 := hide hg5; have HU5 : Hid (Up wr w5) := Fr.up (S := fun _ => False) ((Fr.of_up (Up.refl wr)).grown hg5 fun x hx => by simp [Value.ownBlock] at hx) (fun _ _ h => h); clear hown5 hg5 hat5 hlt5)
      have HU6 := hide (HU.out.trans HU5.out)
      have HV2 := hide (own_up HV1.out HU5.out)
      simp only [Nat.zero_add, List.nil_append] at HO5 ⊢
      clear k1 k2 HN1 HL1 hmp HOwn0
      obtain ⟨wo, hwo⟩ : ∃ wo : World, wo = w5 := ⟨_, rfl⟩
      subst hwo
      have q0 := HU6.out.cell QC.out.1
      have q1 := HU6.out.cell QC.out.2
      have hb6 : Hid (w.heap.size ≤ wo.heap.size) := HU6.out.size
      have hgo : Hid (g5 < wo.heap.size) := (own_lt HO5.out (g := g5) rfl).2
      have hgb : Hid (w.heap.size ≤ g5) := (own_lt HO5.out (g := g5) rfl).1
      have hgg : Hid (g ≠ g5) := by have h1 := (own_lt HV0.out (g := g) rfl).2; have h2 := hgb.out; show _ ≠ _; omega
      try dsimp only at q0 q1
      have hl5 := hide (own_cap HO5.out)
      have HU7 : Hid (∀ w6 : World, wo.grownBy w6 (some g5) → Up w w6) := fun w6 hg6 => Fr.up (S := fun _ => False) ((Fr.of_up HU6.out).grown hg6 fun x hx => .inr (by cases hx; exact hgb.out)) (fun _ _ h => h)
      go_cut [5] (fun sv wc => ∃ g6 cap6, sv = .slice (some ⟨g6, 0, none⟩) l.length cap6 ∧ Hid (Up w wc) ∧ Hid (wc.ownsRow w.heap.size 32 2 (.slice (some ⟨g6, 0, none⟩) l.length cap6) l.length (flat (l.drop f ++ l.take f))))
      case first =>
        by_cases hf0 : f = 0
        · have HX : Hid ((l.length - f = l.length) ∧ flat (l.drop f ++ l.take f) = flat (l.drop f)) := by subst hf0; show _ ∧ _; simp
          rw [← HX.out.2, HX.out.1] at HO5
          rw [HX.out.1] at hl5
          subst hf0
          simp only [Nat.sub_zero]
          go_upto_region 10 with (at_builtin; refine wpList_app0 el_pts rfl (.tmp 55) (.tmp 58) rfl (some ⟨g5, 0, none⟩) l.length cap5 hl5.out (by rfl) ⟨g, 0, none⟩ _ (by rfl) ?_)
          go_meet
          case rel => exact ⟨g5, cap5, rfl, HU6, HO5⟩
        · have hL2 : Hid ((flat (l.take f)).length = f * 2) := by rw [flat_length, List.length_take, Nat.min_eq_left (by omega)]; exact rfl
          have HN2 : Hid (∀ j u, (flat (l.take f))[j]? = some u → wo.cell? ((⟨g, 0, none⟩ : Addr).add j) = some u) := fun j u hu => by
            rw [flat_takeN, List.getElem?_take] at hu
            split at hu
            · rw [addr_add2, Nat.zero_add]
              obtain ⟨g', cap', e', hc⟩ := own_cell HV2.out (by omega)
              cases e'
              exact hc _ _ hu
            · cases hu
          have hmp : Hid (0 < f ∧ (l.length - f) + f ≤ 1073741824 ∧ (l.length - f) + f = l.length) := by show _ ∧ _ ∧ _; omega
          go_upto_region 10 with (at_builtin; refine wpList_appN el_pts rfl (.tmp 55) (.tmp 58) rfl w.heap.size _ _ _ (by rfl) HO5.out ⟨g, 0, none⟩ f _ (flat (l.take f)) (by rfl) hL2.out HN2.out (HOne.out _) hmp.out.1 hmp.out.2.1 hb6.out ?_; intro g6 cap6 w6 hown6 hg6 hat6 hlt6; have HO6 := hide hown6; have HU8 := hide (HU7.out _ hg6); clear hown6 hg6 hat6 hlt6)
          go_meet
          case rel => exact ⟨g6, cap6, by rw [hmp.out.2.2], HU8, by rw [flat_append]; rw [hmp.out.2.2] at HO6; exact HO6⟩
      case rest =>
        obtain ⟨g6, cap6, rfl, HUc, HOc⟩ := hcut
        clear q0 q1
        have q0 := HUc.out.cell QC.out.1
        have q1 := HUc.out.cell QC.out.2
        try dsimp only at q0 q1
        have HOA : Hid (∀ o, (wc.alloc o).ownsRow w.heap.size 32 2 (.slice (some ⟨g6, 0, none⟩) l.length cap6) l.length (flat (l.drop f ++ l.take f))) := fun o => HOc.out.alloc o
        have hb7 : Hid (l.length ≤ 1073741824) := by show _ ≤ _; omega
        have hsz : Hid (w.heap.size ≤ wc.heap.size) := HUc.out.size
        have hlr : Hid ((Vd.roundD l).length = l.length + 1) := by rw [HRo.out]; simp only [List.length_append, List.length_drop, List.length_take, List.length_cons, List.length_nil]; show _ = _; omega
        go_wp2_with (at_builtin; refine wpList_app el_pts rfl (.tmp 60) (.tmp 65) rfl w.heap.size _ _ _ (by rfl) (HOA.out _) wc.heap.size [.int .i64 qx, .int .i64 qy] (by rfl) rfl (heap_alloc_new wc _) (by intro x hx; simp at hx; rcases hx with rfl | rfl <;> rfl) hb7.out (by simp; have := hsz.out; omega) ?_; intro g7 cap7 w7 hown7 hg7 hat7 hlt7; have HO7 := hide hown7; have HU8 : Hid (Up w w7) := Fr.up (S := fun _ => False) (((Fr.of_up HUc.out).alloc _).grown hg7 fun x hx => .inr (own_lt HOc.out hx).1) (fun _ _ h => h); clear hown7 hg7 hat7 hlt7 q0 q1)
        go_ret
        exact ⟨_, rfl, HU8.out, by rw [hlr.out, HRo.out, flat_append, HPt.out]; exact HO7.out⟩
end Go.Proofs.YtcclepohmhdpbaaGreatDoor

/- THE WALKS: package canon: corners. -/
namespace Go.Proofs.YtcclepohmhdpbaaGreatDoor
set_option linter.all false
open Go.RowKit Go.Deep

namespace Vd
theorem cornersI_succ (r : Ring) (n : Nat) : cornersI r (n + 1) = cornersI r n ++ (if turns r n = true then [ptAt r n] else []) := by
  unfold cornersI
  rw [List.range_succ, List.filter_append, List.map_append]
  congr 1
  by_cases h : turns r n = true
  · rw [if_pos h]; simp [h]
  · rw [if_neg h]; simp [h]
theorem cornersI_one (r : Ring) : cornersI r 1 = [] := by
  rw [cornersI_succ]; simp [cornersI, turns]
theorem cornersI_len (r : Ring) (n : Nat) : (cornersI r n).length ≤ n := by
  unfold cornersI
  rw [List.length_map]
  have := List.length_filter_le (turns r) (List.range n)
  simpa using this
end Vd
theorem ptAt_some {r : Ring} {i : Nat} {p : Pnt} (h : r[i]? = some p) : Vd.ptAt r i = p := by unfold Vd.ptAt; rw [List.getD_eq_getElem?_getD, h]; rfl
theorem turns_at {r : Ring} {k : Nat} {p q n : Pnt} (hp : r[k]? = some p) (hq : r[k + 1]? = some q) (hn : Vd.nextI r (k + 1) = n) : Vd.turns r (k + 1) = decide (Vd.side (p, q) (Vd.at1 n) ≠ 0) := by
  unfold Vd.turns
  rw [show k + 1 - 1 = k from rfl, ptAt_some hp, ptAt_some hq, hn]
  simp

set_option maxRecDepth 8000 in
set_option maxHeartbeats 8000000 in
theorem corners_any (v : Value) (r : Ring) (w : World) (hv : Rd1 w v r) (hr : r.length ≤ 1048576) (hc : Vd.CdR r) :
    Calls Tryz.prog 205 #[v] w fun e w' => ∃ u, e = .returned u ∧ Up w w' ∧ w'.ownsRow w.heap.size 32 2 u (Vd.corners r).length (flat (Vd.corners r)) := by
  obtain ⟨ao, cap, rfl, hm⟩ := hv
  have HM := hide hm
  have HC := hide hc
  have HD : Hid (Vd.corners r = Vd.cornersI r r.length) := rfl
  have HS := hide (fun n => Vd.cornersI_succ r n)
  have H1 := hide (Vd.cornersI_one r)
  have HLn := hide (fun n => Vd.cornersI_len r n)
  clear hm hc
  go_enter Tryz.func205, Tryz.ntmps205
  go_wp2
  go_loopw [3, 4] (fun sv i wr => ∃ (k : Nat) (u : Value), i = .int .i64 ((k : Int) + 1) ∧ u = sv ∧ k ≤ r.length ∧ Hid (Up w wr) ∧ Hid (wr.ownsRow w.heap.size 32 2 u (Vd.cornersI r (k + 1)).length (flat (Vd.cornersI r (k + 1)))) ∧ Hid (k = 0 ∨ k + 1 ≤ r.length)) (fun _ i _ => r.length - (intOf i).toNat)
  case atStart => exact ⟨0, _, rfl, rfl, Nat.zero_le _, Up.refl _, by show World.ownsRow _ _ _ _ _ _ _; rw [H1.out]; exact World.ownsRow_nil _ _ _ _, .inl rfl⟩
  case round =>
    obtain ⟨k, u, rfl, rfl, hk, HU, HO, HK0⟩ := hrel
    by_cases hlt : k + 1 < r.length
    · obtain ⟨⟨px, py⟩, hp⟩ := Pl.some_of_lt (show k < r.length by omega)
      obtain ⟨⟨qx, qy⟩, hq⟩ := Pl.some_of_lt hlt
      obtain ⟨⟨ox, oy⟩, ho⟩ := Pl.some_of_lt (show 1 < r.length by omega)
      obtain ⟨b, rfl, c0, c1⟩ := HM.out k _ hp
      obtain ⟨b', e', d0, d1⟩ := HM.out (k + 1) _ hq
      cases e'
      obtain ⟨b', e', o0, o1⟩ := HM.out 1 _ ho
      cases e'
      have Cp := hide (HC.out _ (Pl.mem_of_some hp))
      have Cq := hide (HC.out _ (Pl.mem_of_some hq))
      have i1 : (0 : Int) ≤ (k : Int) := by omega
      have i2 : (k : Int) < (r.length : Int) := by omega
      have i3 : (k : Int) + 1 < (r.length : Int) := by omega
      have i4 : IntKind.i64.wrap (k : Int) = (k : Int) := wrap_id (by omega) (by omega)
      have i5 : (0 : Int) ≤ (k : Int) + 1 := by omega
      have i6 : (1 : Int) < (r.length : Int) := by omega
      have i7 : IntKind.i64.wrap ((k : Int) + 1 + 1) = (k : Int) + 1 + 1 := wrap_id (by omega) (by omega)
      have i8 : IntKind.i64.wrap ((k : Int) + 1) = (k : Int) + 1 := wrap_id (by omega) (by omega)
      have C0 := hide (HU.out.cell c0)
      have C1 := hide (HU.out.cell c1)
      have D0 := hide (HU.out.cell d0)
      have D1 := hide (HU.out.cell d1)
      have e0 := HU.out.cell o0
      have e1 := HU.out.cell o1
      have hTs : Hid (w.heap.size ≤ wr.heap.size) := HU.out.size
      clear c0 c1 d0 d1 o0 o1
      obtain ⟨⟨nx, ny⟩, hn⟩ : ∃ n, Vd.nextI r (k + 1) = n := ⟨_, rfl⟩
      have HT := hide (turns_at hp hq hn)
      have HSk := hide (HS.out (k + 1))
      rw [HT.out, ptAt_some hq] at HSk
      have Cn : Hid (Vd.Cd (nx, ny)) := by
        rw [← hn]; unfold Vd.nextI
        split
        · rename_i h; obtain ⟨x, hx⟩ := Pl.some_of_lt h; rw [ptAt_some hx]; exact HC.out _ (Pl.mem_of_some hx)
        · rw [ptAt_some ho]; exact HC.out _ (Pl.mem_of_some ho)
      obtain ⟨T, hT⟩ : ∃ T, wr.heap.size = T := ⟨_, rfl⟩
      have RN0 := hide (new_row (w := wr) (o := .cells #[.int .i64 ox, .int .i64 oy] 32) (vs := [.int .i64 ox, .int .i64 oy]) rfl)
      have HUT : Hid (Up wr (wr.alloc (.cells #[.int .i64 ox, .int .i64 oy] 32))) := (Up.refl _).alloc _
      rw [hT] at RN0
      have hcase : (∃ x y, r[k + 2]? = some (x, y) ∧ (nx, ny) = (x, y) ∧ (k : Int) + 1 + 1 < (r.length : Int)) ∨ ((nx, ny) = (ox, oy) ∧ ¬ (k : Int) + 1 + 1 < (r.length : Int)) := by
        rw [← hn]; unfold Vd.nextI
        by_cases h : k + 1 + 1 < r.length
        · obtain ⟨⟨x, y⟩, hx⟩ := Pl.some_of_lt h
          exact .inl ⟨x, y, hx, by rw [if_pos h, ptAt_some hx], by omega⟩
        · exact .inr ⟨by rw [if_neg h, ptAt_some ho], by omega⟩
      have HX : Hid (∀ n, r[k + 2]? = some n → wr.cell? ⟨b, (k + 1 + 1) * 2, none⟩ = some (.int .i64 n.1) ∧ wr.cell? ⟨b, (k + 1 + 1) * 2 + 1, none⟩ = some (.int .i64 n.2)) := fun n hx => by
        obtain ⟨b', e', x0, x1⟩ := HM.out (k + 2) _ hx
        cases e'
        exact ⟨HU.out.cell x0, HU.out.cell x1⟩
      clear hp hq hn ho
      rcases hcase with ⟨x, y, hx, en, i9⟩ | ⟨en, i9⟩
      · obtain ⟨rfl, rfl⟩ := Prod.mk.inj en
        obtain ⟨x0, x1⟩ := HX.out _ hx
        have y0 := HUT.out.cell x0
        have y1 := HUT.out.cell x1
        have tf := fun i => RN0.out.frozen i
        have t0 := RN0.out.cell (i := 0) rfl
        have t1 := RN0.out.cell (i := 1) rfl
        rw [← hT] at tf t0 t1
        try dsimp only at y0 y1
        clear hx x0 x1 en HX
        go_upto_region 8 with fail
        clear y0 y1 tf t0 t1 e0 e1 RN0 HUT i9
        have HUW : Hid (Up wr (wr.alloc (.cells #[.int .i64 nx, .int .i64 ny] 32))) := (Up.refl _).alloc _
        have RN := hide (new_row (w := wr) (o := .cells #[.int .i64 nx, .int .i64 ny] 32) (vs := [.int .i64 nx, .int .i64 ny]) rfl)
        have hTl : Hid (u.ownBlock ≠ some wr.heap.size) := fun e => by have := (own_lt HO.out e).2; omega
        rw [hT] at RN hTl
        generalize wr.alloc (.cells #[.int .i64 nx, .int .i64 ny] 32) = W at *
        have f0 := HUW.out.cell C0.out
        have f1 := HUW.out.cell C1.out
        have g0 := HUW.out.cell D0.out
        have g1 := HUW.out.cell D1.out
        have f0a := fun o => ((Up.refl W).alloc o).cell f0
        have f1a := fun o => ((Up.refl W).alloc o).cell f1
        have g0a := fun o => ((Up.refl W).alloc o).cell g0
        have g1a := fun o => ((Up.refl W).alloc o).cell g1
        try dsimp only at f0 f1 g0 g1 f0a f1a g0a g1a
        go_cut [6] (fun sl wc => ∃ S : Nat, sl = .pointer (some ⟨S, 0, none⟩) ∧ Hid (Up W wc) ∧ Hid (VRow wc S 191 [.int .i64 px, .int .i64 py, .int .i64 qx, .int .i64 qy]))
        case first =>
          go_region
          all_goals
            go_wp2
            go_meet
            case rel => exact ⟨W.heap.size, rfl, (by first | exact ((Up.refl W).alloc _).drew | exact (Up.refl W).alloc _ | exact ((Up.refl W).drew.alloc _)), (by first | exact VRow.drewN (VRow.new W _ _) 1 | exact VRow.new W _ _)⟩
        case rest =>
          obtain ⟨S, rfl, HUc, RS⟩ := hcut
          clear f0 f1 g0 g1 f0a f1a g0a g1a
          have RN2 := hide (RN.out.up HUc.out)
          have q0 := RN2.out.gr (i := 0) rfl
          have q1 := RN2.out.gr (i := 1) rfl
          have s0 := RS.out.gr (i := 0) rfl
          have s1 := RS.out.gr (i := 1) rfl
          have s2 := RS.out.gr (i := 2) rfl
          have s3 := RS.out.gr (i := 3) rfl
          have HA : Hid (∀ g : Gr wc, Calls Tryz.prog 199 #[.agg #[.int .i64 nx, .int .i64 ny]] g.v fun e w' => e = .returned (.agg #[.int .i64 nx, .int .i64 ny, .int .i64 1]) ∧ Up g.v w') := fun g => at_any (nx, ny) g.v
          have HB : Hid (∀ g : Gr wc, Calls Tryz.prog 233 #[.agg #[.int .i64 px, .int .i64 py, .int .i64 qx, .int .i64 qy], .agg #[.int .i64 nx, .int .i64 ny, .int .i64 1]] g.v fun e w' => e = .returned (.int .i64 (Vd.side ((px, py), (qx, qy)) (Vd.at1 (nx, ny)))) ∧ Up g.v w') := fun g => side_any ((px, py), (qx, qy)) (Vd.at1 (nx, ny)) ⟨Cp.out, Cq.out⟩ (Vd.at1_sp Cn.out) g.v
          generalize Vd.side ((px, py), (qx, qy)) (Vd.at1 (nx, ny)) = X at *
          go_wp2_with fail
          refine wp_region_up (by kernel_rfl) (by kernel_rfl) ?_
          repeat (first | go_big_quiet_step (first | (go_at_call 199; exact Calls.up_of (HA.out _)) | (go_at_call 233; exact Calls.up_of (HB.out _))))
          refine wpQuiet_nil ?_
          rintro w3 ⟨⟨_, u3⟩, rfl⟩
          have HU3 := hide ((HUW.out.trans HUc.out).trans u3)
          clear u3 q0 q1 s0 s1 s2 s3 HA HB RN2 RS HUc
          by_cases hX : X = 0
          · have HO2 : Hid (World.ownsRow w3 w.heap.size 32 2 u (Vd.cornersI r (k + 1 + 1)).length (flat (Vd.cornersI r (k + 1 + 1)))) := by
              rw [HSk.out, hX]; simp only [ne_eq, not_true_eq_false, decide_false, Bool.false_eq_true, if_false, List.append_nil]; exact own_up HO.out HU3.out
            have hX' := bne_eq_false_iff_eq.2 hX
            subst hX
            go_wp2
            go_roundw
            case rel => exact ⟨k + 1, _, by go_num, rfl, by omega, HU.out.trans HU3.out, HO2, .inr (by omega)⟩
            case measure => simp [intOf]; omega
          · have hX1 := bne_iff_ne.2 hX
            have hX2 := beq_eq_false_iff_ne.2 hX
            have g0 := HU3.out.cell D0.out
            have g1 := HU3.out.cell D1.out
            try dsimp only at g0 g1
            have HOA : Hid (∀ o, (w3.alloc o).ownsRow w.heap.size 32 2 u (Vd.cornersI r (k + 1)).length (flat (Vd.cornersI r (k + 1)))) := fun o => (own_up HO.out HU3.out).alloc o
            have hb : Hid ((Vd.cornersI r (k + 1)).length ≤ 1073741824) := by have := HLn.out (k + 1); show _ ≤ _; omega
            have hsz : Hid (w.heap.size ≤ w3.heap.size) := Nat.le_trans hTs.out HU3.out.size
            go_wp2_with (at_builtin; refine wpList_app el_pts rfl (.tmp 41) (.tmp 46) rfl w.heap.size _ _ _ (by rfl) (HOA.out _) w3.heap.size [.int .i64 qx, .int .i64 qy] (by rfl) rfl (heap_alloc_new w3 _) (by intro x hx; simp at hx; rcases hx with rfl | rfl <;> rfl) hb.out (by simp; have := hsz.out; omega) ?_; intro g cap w5 hown5 hg5 hat5 hlt5; have HO5 := hide hown5; have HU5 : Hid (Up w w5) := Fr.up (S := fun _ => False) (((Fr.of_up (HU.out.trans HU3.out)).alloc _).grown hg5 fun x hx => .inr (own_lt HO.out hx).1) (fun _ _ h => h); clear hown5 hg5 hat5 hlt5 g0 g1)
            go_roundw
            case rel => exact ⟨k + 1, _, by go_num, rfl, by omega, HU5, by rw [HSk.out]; simp only [hX, ne_eq, not_false_eq_true, decide_true, if_true]; rw [flat_append, List.length_append]; exact HO5, .inr (by omega)⟩
            case measure => simp [intOf]; omega
      · obtain ⟨rfl, rfl⟩ := Prod.mk.inj en
        clear en HX
        go_upto_region 8 with fail
        clear e0 e1 RN0 HUT i9
        have HUW : Hid (Up wr (wr.alloc (.cells #[.int .i64 nx, .int .i64 ny] 32))) := (Up.refl _).alloc _
        have RN := hide (new_row (w := wr) (o := .cells #[.int .i64 nx, .int .i64 ny] 32) (vs := [.int .i64 nx, .int .i64 ny]) rfl)
        have hTl : Hid (u.ownBlock ≠ some wr.heap.size) := fun e => by have := (own_lt HO.out e).2; omega
        rw [hT] at RN hTl
        generalize wr.alloc (.cells #[.int .i64 nx, .int .i64 ny] 32) = W at *
        have f0 := HUW.out.cell C0.out
        have f1 := HUW.out.cell C1.out
        have g0 := HUW.out.cell D0.out
        have g1 := HUW.out.cell D1.out
        have f0a := fun o => ((Up.refl W).alloc o).cell f0
        have f1a := fun o => ((Up.refl W).alloc o).cell f1
        have g0a := fun o => ((Up.refl W).alloc o).cell g0
        have g1a := fun o => ((Up.refl W).alloc o).cell g1
        try dsimp only at f0 f1 g0 g1 f0a f1a g0a g1a
        go_cut [6] (fun sl wc => ∃ S : Nat, sl = .pointer (some ⟨S, 0, none⟩) ∧ Hid (Up W wc) ∧ Hid (VRow wc S 191 [.int .i64 px, .int .i64 py, .int .i64 qx, .int .i64 qy]))
        case first =>
          go_region
          all_goals
            go_wp2
            go_meet
            case rel => exact ⟨W.heap.size, rfl, (by first | exact ((Up.refl W).alloc _).drew | exact (Up.refl W).alloc _ | exact ((Up.refl W).drew.alloc _)), (by first | exact VRow.drewN (VRow.new W _ _) 1 | exact VRow.new W _ _)⟩
        case rest =>
          obtain ⟨S, rfl, HUc, RS⟩ := hcut
          clear f0 f1 g0 g1 f0a f1a g0a g1a
          have RN2 := hide (RN.out.up HUc.out)
          have q0 := RN2.out.gr (i := 0) rfl
          have q1 := RN2.out.gr (i := 1) rfl
          have s0 := RS.out.gr (i := 0) rfl
          have s1 := RS.out.gr (i := 1) rfl
          have s2 := RS.out.gr (i := 2) rfl
          have s3 := RS.out.gr (i := 3) rfl
          have HA : Hid (∀ g : Gr wc, Calls Tryz.prog 199 #[.agg #[.int .i64 nx, .int .i64 ny]] g.v fun e w' => e = .returned (.agg #[.int .i64 nx, .int .i64 ny, .int .i64 1]) ∧ Up g.v w') := fun g => at_any (nx, ny) g.v
          have HB : Hid (∀ g : Gr wc, Calls Tryz.prog 233 #[.agg #[.int .i64 px, .int .i64 py, .int .i64 qx, .int .i64 qy], .agg #[.int .i64 nx, .int .i64 ny, .int .i64 1]] g.v fun e w' => e = .returned (.int .i64 (Vd.side ((px, py), (qx, qy)) (Vd.at1 (nx, ny)))) ∧ Up g.v w') := fun g => side_any ((px, py), (qx, qy)) (Vd.at1 (nx, ny)) ⟨Cp.out, Cq.out⟩ (Vd.at1_sp Cn.out) g.v
          generalize Vd.side ((px, py), (qx, qy)) (Vd.at1 (nx, ny)) = X at *
          go_wp2_with fail
          refine wp_region_up (by kernel_rfl) (by kernel_rfl) ?_
          repeat (first | go_big_quiet_step (first | (go_at_call 199; exact Calls.up_of (HA.out _)) | (go_at_call 233; exact Calls.up_of (HB.out _))))
          refine wpQuiet_nil ?_
          rintro w3 ⟨⟨_, u3⟩, rfl⟩
          have HU3 := hide ((HUW.out.trans HUc.out).trans u3)
          clear u3 q0 q1 s0 s1 s2 s3 HA HB RN2 RS HUc
          by_cases hX : X = 0
          · have HO2 : Hid (World.ownsRow w3 w.heap.size 32 2 u (Vd.cornersI r (k + 1 + 1)).length (flat (Vd.cornersI r (k + 1 + 1)))) := by
              rw [HSk.out, hX]; simp only [ne_eq, not_true_eq_false, decide_false, Bool.false_eq_true, if_false, List.append_nil]; exact own_up HO.out HU3.out
            have hX' := bne_eq_false_iff_eq.2 hX
            subst hX
            go_wp2
            go_roundw
            case rel => exact ⟨k + 1, _, by go_num, rfl, by omega, HU.out.trans HU3.out, HO2, .inr (by omega)⟩
            case measure => simp [intOf]; omega
          · have hX1 := bne_iff_ne.2 hX
            have hX2 := beq_eq_false_iff_ne.2 hX
            have g0 := HU3.out.cell D0.out
            have g1 := HU3.out.cell D1.out
            try dsimp only at g0 g1
            have HOA : Hid (∀ o, (w3.alloc o).ownsRow w.heap.size 32 2 u (Vd.cornersI r (k + 1)).length (flat (Vd.cornersI r (k + 1)))) := fun o => (own_up HO.out HU3.out).alloc o
            have hb : Hid ((Vd.cornersI r (k + 1)).length ≤ 1073741824) := by have := HLn.out (k + 1); show _ ≤ _; omega
            have hsz : Hid (w.heap.size ≤ w3.heap.size) := Nat.le_trans hTs.out HU3.out.size
            go_wp2_with (at_builtin; refine wpList_app el_pts rfl (.tmp 41) (.tmp 46) rfl w.heap.size _ _ _ (by rfl) (HOA.out _) w3.heap.size [.int .i64 qx, .int .i64 qy] (by rfl) rfl (heap_alloc_new w3 _) (by intro x hx; simp at hx; rcases hx with rfl | rfl <;> rfl) hb.out (by simp; have := hsz.out; omega) ?_; intro g cap w5 hown5 hg5 hat5 hlt5; have HO5 := hide hown5; have HU5 : Hid (Up w w5) := Fr.up (S := fun _ => False) (((Fr.of_up (HU.out.trans HU3.out)).alloc _).grown hg5 fun x hx => .inr (own_lt HO.out hx).1) (fun _ _ h => h); clear hown5 hg5 hat5 hlt5 g0 g1)
            go_roundw
            case rel => exact ⟨k + 1, _, by go_num, rfl, by omega, HU5, by rw [HSk.out]; simp only [hX, ne_eq, not_false_eq_true, decide_true, if_true]; rw [flat_append, List.length_append]; exact HO5, .inr (by omega)⟩
            case measure => simp [intOf]; omega
    · have HR : Hid (Vd.cornersI r (k + 1) = Vd.corners r) := by
        rw [HD.out]
        rcases HK0.out with h | h
        · subst h
          have e := HS.out 0
          rcases (show r.length = 0 ∨ r.length = 1 by omega) with h | h
          · rw [h, H1.out]; exact rfl
          · rw [h]; exact rfl
        · rw [show k + 1 = r.length by omega]; exact rfl
      rw [HR.out] at HO
      have i9 : ¬ (k : Int) + 1 < (r.length : Int) := by omega
      go_wp2
      go_ret
      exact ⟨_, rfl, HU.out, HO.out⟩
end Go.Proofs.YtcclepohmhdpbaaGreatDoor

/- THE WALKS: package canon: least, turnsLeft, ringForm. -/
namespace Go.Proofs.YtcclepohmhdpbaaGreatDoor
set_option linter.all false
open Go.RowKit Go.Deep

namespace Vd
theorem leastN_succ (v : Ring) (n : Nat) : leastN v (n + 1) = leastS v (leastN v n) n := by
  unfold leastN; rw [List.range_succ, List.foldl_append]; rfl
theorem leastN_le (v : Ring) : ∀ n, leastN v n ≤ n - 1
  | 0 => Nat.le_refl _
  | n + 1 => by
    rw [leastN_succ]; unfold leastS
    have := leastN_le v n
    split <;> omega
end Vd
set_option maxRecDepth 8000 in
set_option maxHeartbeats 4000000 in
theorem least2_any (v : Value) (r : Ring) (w : World) (hv : Rd1 w v r) (hr : r.length ≤ 1048576) :
    Calls Tryz.prog 206 #[v] w fun e w' => e = .returned (.int .i64 (Vd.leastI r)) ∧ Up w w' := by
  obtain ⟨ao, cap, rfl, hm⟩ := hv
  have HM := hide hm
  have HS := hide (fun n => Vd.leastN_succ r n)
  have HL := hide (fun n => Vd.leastN_le r n)
  have HD : Hid (Vd.leastI r = Vd.leastN r r.length) := rfl
  clear hm
  go_enter Tryz.func206, Tryz.ntmps206
  go_wp2
  go_loopw [3, 8] (fun fv i wr => ∃ (k f : Nat), i = .int .i64 k ∧ fv = .int .i64 f ∧ k ≤ r.length ∧ Hid (Up w wr) ∧ Hid (f = Vd.leastN r k)) (fun _ i _ => r.length - (intOf i).toNat)
  case atStart => exact ⟨0, 0, rfl, rfl, Nat.zero_le _, Up.refl _, rfl⟩
  case round =>
    obtain ⟨k, f, rfl, rfl, hk, HU, HF⟩ := hrel
    by_cases hlt : k < r.length
    · obtain ⟨⟨px, py⟩, hp⟩ := Pl.some_of_lt hlt
      have hfl : f < r.length := by have := HL.out k; rw [← HF.out] at this; omega
      obtain ⟨⟨qx, qy⟩, hq⟩ := Pl.some_of_lt hfl
      obtain ⟨b, rfl, c0, c1⟩ := HM.out k _ hp
      obtain ⟨b', e', d0, d1⟩ := HM.out f _ hq
      cases e'
      have e0 := HU.out.cell c0
      have e1 := HU.out.cell c1
      have HUT : Hid (Up wr (wr.alloc (.cells #[.int .i64 px, .int .i64 py] 32))) := (Up.refl _).alloc _
      have RN := hide (new_row (w := wr) (o := .cells #[.int .i64 px, .int .i64 py] 32) (vs := [.int .i64 px, .int .i64 py]) rfl)
      have g0 := cell_gr (HUT.out.cell (HU.out.cell d0))
      have g1 := cell_gr (HUT.out.cell (HU.out.cell d1))
      have q0 := RN.out.gr (i := 0) rfl
      have q1 := RN.out.gr (i := 1) rfl
      have HK : Hid (∀ g : Gr (wr.alloc (.cells #[.int .i64 px, .int .i64 py] 32)), Calls Tryz.prog 236 #[.agg #[.int .i64 px, .int .i64 py], .agg #[.int .i64 qx, .int .i64 qy]] g.v fun e w' => e = .returned (.bool (decide (Vd.bef (px, py) (qx, qy)))) ∧ Up g.v w') := fun g => before_any (px, py) (qx, qy) g.v
      have HSk : Hid (Vd.leastN r (k + 1) = if Vd.bef (px, py) (qx, qy) then k else f) := by
        rw [HS.out, ← HF.out]; unfold Vd.leastS; rw [ptAt_some hp, ptAt_some hq]; exact rfl
      have i1 : (0 : Int) ≤ (k : Int) := by omega
      have i2 : (k : Int) < (r.length : Int) := by omega
      have i3 : (0 : Int) ≤ (f : Int) := by omega
      have i4 : (f : Int) < (r.length : Int) := by omega
      try dsimp only at e0 e1 g0 g1 q0 q1
      by_cases hb : Vd.bef (px, py) (qx, qy)
      all_goals
        first | rw [decide_eq_true hb] at HK | rw [decide_eq_false hb] at HK
        first | rw [if_pos hb] at HSk | rw [if_neg hb] at HSk
        clear hp hq c0 c1 d0 d1 hb
        go_upto_region 5 with fail
        refine wp_region_up (by kernel_rfl) (by kernel_rfl) ?_
        repeat (first | go_big_quiet_step ((go_at_call 236; exact Calls.up_of (HK.out _))))
        refine wpQuiet_nil ?_
        rintro w3 ⟨⟨_, u3⟩, rfl⟩
        have HU3 := hide (HU.out.trans (HUT.out.trans u3))
        clear u3 e0 e1 g0 g1 q0 q1 HK
        go_wp2
        go_roundw
        case rel => exact ⟨k + 1, _, by go_num, rfl, by omega, HU3, HSk.out.symm⟩
        case measure => simp [intOf]; omega
    · have hk2 : k = r.length := by omega
      have HR : Hid (f = Vd.leastI r) := by rw [HD.out, HF.out, hk2]; exact rfl
      have i9 : ¬ (k : Int) < (r.length : Int) := by omega
      clear hk2
      go_wp2
      go_ret
      exact ⟨ret_i (by rw [HR.out]), HU.out⟩

set_option maxRecDepth 8000 in
set_option maxHeartbeats 4000000 in
theorem turnsLeft_any (v : Value) (r : Ring) (k : Nat) (w : World) (hv : Rd1 w v r) (hr : r.length ≤ 1048576) (hc : Vd.CdR r) (hk : k < r.length) :
    Calls Tryz.prog 207 #[v, .int .i64 k] w fun e w' => e = .returned (.bool (Vd.lefts r k)) ∧ Up w w' := by
  obtain ⟨ao, cap, rfl, hm⟩ := hv
  have hpl : (k + r.length - 1) % r.length < r.length := Nat.mod_lt _ (by omega)
  have hnl : (k + 1) % r.length < r.length := Nat.mod_lt _ (by omega)
  obtain ⟨⟨px, py⟩, hp⟩ := Pl.some_of_lt hpl
  obtain ⟨⟨qx, qy⟩, hq⟩ := Pl.some_of_lt hk
  obtain ⟨⟨nx, ny⟩, hn⟩ := Pl.some_of_lt hnl
  obtain ⟨b, rfl, c0, c1⟩ := hm _ _ hp
  obtain ⟨b', e', d0, d1⟩ := hm _ _ hq
  cases e'
  obtain ⟨b', e', n0, n1⟩ := hm _ _ hn
  cases e'
  have HR : Hid (Vd.lefts r k = decide (0 < Vd.side ((px, py), (qx, qy)) (Vd.at1 (nx, ny)))) := by unfold Vd.lefts; rw [ptAt_some hp, ptAt_some hq, ptAt_some hn]; exact rfl
  have Cp := hide (hc _ (Pl.mem_of_some hp))
  have Cq := hide (hc _ (Pl.mem_of_some hq))
  have Cn := hide (hc _ (Pl.mem_of_some hn))
  have j1 : IntKind.i64.wrap ((k : Int) + (r.length : Int)) = (k : Int) + (r.length : Int) := wrap_id (by omega) (by omega)
  have j2 : IntKind.i64.wrap ((k : Int) + (r.length : Int) - 1) = (k : Int) + (r.length : Int) - 1 := wrap_id (by omega) (by omega)
  have j3 : IntKind.i64.wrap ((k : Int) + 1) = (k : Int) + 1 := wrap_id (by omega) (by omega)
  have jn : ¬ r = [] := fun e => by subst e; simp at hk
  obtain ⟨P, hP⟩ : ∃ P, (k + r.length - 1) % r.length = P := ⟨_, rfl⟩
  obtain ⟨N, hN⟩ : ∃ N, (k + 1) % r.length = N := ⟨_, rfl⟩
  have j4 : ((k : Int) + (r.length : Int) - 1).tmod (r.length : Int) = (P : Int) := by
    rw [← hP, show (k : Int) + (r.length : Int) - 1 = ((k + r.length - 1 : Nat) : Int) by omega]; exact rfl
  have j5 : ((k : Int) + 1).tmod (r.length : Int) = (N : Int) := by rw [← hN]; exact rfl
  rw [hP] at c0 c1 hpl
  rw [hN] at n0 n1 hnl
  have k1 : (P : Int) < (r.length : Int) := by omega
  have k2 : (N : Int) < (r.length : Int) := by omega
  have k3 : (k : Int) < (r.length : Int) := by omega
  have k4 : (0 : Int) ≤ (P : Int) := by omega
  have k5 : (0 : Int) ≤ (N : Int) := by omega
  have k6 : (0 : Int) ≤ (k : Int) := by omega
  have c0a := fun o => ((Up.refl w).alloc o).cell c0
  have c1a := fun o => ((Up.refl w).alloc o).cell c1
  have d0a := fun o => ((Up.refl w).alloc o).cell d0
  have d1a := fun o => ((Up.refl w).alloc o).cell d1
  try dsimp only at c0 c1 d0 d1 n0 n1 c0a c1a d0a d1a
  have N0 := hide n0
  have N1 := hide n1
  clear hm hc hp hq hn hP hN n0 n1
  go_enter Tryz.func207, Tryz.ntmps207
  go_upto_region 2 with fail
  go_cut [6] (fun sl wc => ∃ S : Nat, sl = .pointer (some ⟨S, 0, none⟩) ∧ Hid (Up w wc) ∧ Hid (VRow wc S 191 [.int .i64 px, .int .i64 py, .int .i64 qx, .int .i64 qy]))
  case first =>
    go_region
    all_goals
      go_wp2
      go_meet
      case rel => exact ⟨w.heap.size, rfl, (by first | exact ((Up.refl w).alloc _).drew | exact (Up.refl w).alloc _ | exact ((Up.refl w).drew.alloc _)), (by first | exact VRow.drewN (VRow.new w _ _) 1 | exact VRow.new w _ _)⟩
  case rest =>
    obtain ⟨S, rfl, HUc, RS⟩ := hcut
    clear c0 c1 d0 d1 c0a c1a d0a d1a
    have s0 := RS.out.gr (i := 0) rfl
    have s1 := RS.out.gr (i := 1) rfl
    have s2 := RS.out.gr (i := 2) rfl
    have s3 := RS.out.gr (i := 3) rfl
    have q0 := cell_gr (HUc.out.cell N0.out)
    have q1 := cell_gr (HUc.out.cell N1.out)
    have HA : Hid (∀ g : Gr wc, Calls Tryz.prog 199 #[.agg #[.int .i64 nx, .int .i64 ny]] g.v fun e w' => e = .returned (.agg #[.int .i64 nx, .int .i64 ny, .int .i64 1]) ∧ Up g.v w') := fun g => at_any (nx, ny) g.v
    have HB : Hid (∀ g : Gr wc, Calls Tryz.prog 233 #[.agg #[.int .i64 px, .int .i64 py, .int .i64 qx, .int .i64 qy], .agg #[.int .i64 nx, .int .i64 ny, .int .i64 1]] g.v fun e w' => e = .returned (.int .i64 (Vd.side ((px, py), (qx, qy)) (Vd.at1 (nx, ny)))) ∧ Up g.v w') := fun g => side_any ((px, py), (qx, qy)) (Vd.at1 (nx, ny)) ⟨Cp.out, Cq.out⟩ (Vd.at1_sp Cn.out) g.v
    generalize Vd.side ((px, py), (qx, qy)) (Vd.at1 (nx, ny)) = X at *
    go_wp2_with fail
    refine wp_region_up (by kernel_rfl) (by kernel_rfl) ?_
    repeat (first | go_big_quiet_step (first | (go_at_call 199; exact Calls.up_of (HA.out _)) | (go_at_call 233; exact Calls.up_of (HB.out _))))
    refine wpQuiet_nil ?_
    rintro w3 ⟨⟨_, u3⟩, rfl⟩
    have HU3 := hide (HUc.out.trans u3)
    clear u3 q0 q1 s0 s1 s2 s3 HA HB RS HUc
    go_wp2
    go_ret
    exact ⟨ret_b (by rw [HR.out]), HU3.out⟩
end Go.Proofs.YtcclepohmhdpbaaGreatDoor

/- THE WALKS: package canon: ringForm. -/
namespace Go.Proofs.YtcclepohmhdpbaaGreatDoor
set_option linter.all false
open Go.RowKit Go.Deep

namespace Vd
theorem corners_mem {r : Ring} {p : Pnt} (h : p ∈ corners r) : p ∈ r := by
  unfold corners cornersI at h
  obtain ⟨i, hi, rfl⟩ := List.mem_map.1 h
  have hl := List.mem_range.1 (List.mem_filter.1 hi).1
  obtain ⟨x, hx⟩ := Pl.some_of_lt hl
  unfold ptAt; rw [List.getD_eq_getElem?_getD, hx]
  exact Pl.mem_of_some hx
theorem corners_cd {r : Ring} (h : CdR r) : CdR (corners r) := fun p hp => h p (corners_mem hp)
theorem leastI_lt {v : Ring} (h : v.length ≠ 0) : leastI v < v.length := by have := leastN_le v v.length; unfold leastI; omega
theorem stepI_le {v : Ring} (l : Bool) (h : v.length ≠ 0) : stepI v l ≤ v.length := by unfold stepI; split <;> omega
theorem rForm_len {r : Ring} {l : Bool} (h : (corners r).length ≠ 0) : (ringForm r l).length = (corners r).length + 1 := by unfold ringForm; rw [if_neg h]; simp
theorem rForm_at {r : Ring} {l : Bool} (h : (corners r).length ≠ 0) {k : Nat} (hk : k < (corners r).length + 1) : (ringForm r l)[k]? = some (ptAt (corners r) ((leastI (corners r) + k * stepI (corners r) l) % (corners r).length)) := by
  unfold ringForm; rw [if_neg h, List.getElem?_map, List.getElem?_range hk]; rfl
end Vd
/-- A ring that is being laid. -/
def fillP (L : Ring) (k : Nat) : Ring := L.take k ++ zpts (L.length - k)
theorem fillP_zero (L : Ring) : fillP L 0 = zpts L.length := by simp [fillP]
theorem fillP_all (L : Ring) : fillP L L.length = L := by simp [fillP, zpts]
theorem fillP_len (L : Ring) {k : Nat} (h : k ≤ L.length) : (fillP L k).length = L.length := by simp [fillP, zpts]; omega
theorem fillP_set {L : Ring} {k : Nat} {p : Pnt} (h : L[k]? = some p) : (fillP L k).set k p = fillP L (k + 1) := by
  have hk := Pl.lt_of_some h
  unfold fillP zpts
  rw [Pl.take_one h, List.set_append_right _ _ (by rw [List.length_take]; omega), List.length_take, show k - min k L.length = 0 by omega, show L.length - k = L.length - (k + 1) + 1 by omega, List.replicate_succ, List.set_cons_zero]
  simp
theorem fillP_at {L : Ring} {k : Nat} (h : k < L.length) : (fillP L k)[k]? = some (0, 0) := by
  unfold fillP zpts
  rw [List.getElem?_append_right (by rw [List.length_take]; omega), List.length_take, show k - min k L.length = 0 by omega, show L.length - k = L.length - (k + 1) + 1 by omega, List.replicate_succ]; rfl

set_option maxRecDepth 8000 in
set_option maxHeartbeats 8000000 in
theorem ringForm_any (v : Value) (r : Ring) (l : Bool) (w : World) (hv : Rd1 w v r) (hr : r.length ≤ 1048575) (hc : Vd.CdR r) (h0 : (Vd.corners r).length ≠ 0) :
    Calls Tryz.prog 167 #[v, .bool l] w fun e w' => ∃ g : Nat, e = .returned (.slice (some ⟨g, 0, none⟩) (Vd.ringForm r l).length (Vd.ringForm r l).length) ∧ w.heap.size ≤ g ∧ PRow w' g (Vd.ringForm r l) ∧ Up w w' := by
  have hlen : (Vd.corners r).length ≤ r.length := by have := Vd.cornersI_len r r.length; exact this
  have HV := hide hv
  have HC := hide hc
  have HCV := hide (Vd.corners_cd hc)
  have HF : Hid (∀ k, k < (Vd.corners r).length + 1 → (Vd.ringForm r l)[k]? = some (Vd.ptAt (Vd.corners r) ((Vd.leastI (Vd.corners r) + k * Vd.stepI (Vd.corners r) l) % (Vd.corners r).length))) := fun k hk => Vd.rForm_at h0 hk
  have hfl := Vd.leastI_lt h0
  have hsl := Vd.stepI_le l h0
  have HLn := hide (Vd.rForm_len (l := l) h0)
  obtain ⟨ao0, cap0, rfl, -⟩ := HV.out
  clear hv hc
  have HCo := hide (corners_any _ r w HV.out (by omega) HC.out)
  have HSt : Hid (Vd.stepI (Vd.corners r) l = if Vd.lefts (Vd.corners r) (Vd.leastI (Vd.corners r)) = l then 1 else (Vd.corners r).length - 1) := rfl
  generalize Vd.corners r = V at *
  generalize Vd.ringForm r l = L at *
  generalize hf : Vd.leastI V = f at *
  generalize hs : Vd.stepI V l = s at *
  have Hf := hide hf
  clear hf hs
  have j0 : ((V.length : Int) == 0) = false := beq_eq_false_iff_ne.2 (by omega)
  have jn : ¬ V = [] := fun e => by subst e; simp at h0
  go_enter Tryz.func167, Tryz.ntmps167
  go_wp2_with fail
  refine HCo.out.mono ?_
  rintro e w1 ⟨u, rfl, hu1, ho⟩
  have HU1 := hide hu1
  obtain ⟨ao, cap, rfl⟩ := own_len ho
  have HR1 := hide (own_rd1 ho)
  clear hu1 ho HCo
  go_wp2_with fail
  refine (least2_any _ V w1 HR1.out (by omega)).mono ?_
  rintro e w2 ⟨rfl, hu2⟩
  rw [Hf.out]
  have HU2 := hide (HU1.out.trans hu2)
  have HR2 := hide (HR1.out.up hu2)
  clear hu2
  go_wp2_with fail
  refine (turnsLeft_any _ V f w2 HR2.out (by omega) HCV.out hfl).mono ?_
  rintro e w3 ⟨rfl, hu3⟩
  have HU3 := hide (HU2.out.trans hu3)
  have HR3 := hide (HR2.out.up hu3)
  clear hu3
  have HLe : Hid (L.length = V.length + 1) := HLn.out
  have hmk : ∀ w : World, (Instr.makeSlice 30 (.int .i64 ((V.length : Int) + 1)) (.int .i64 ((V.length : Int) + 1))).run Tryz.prog w = .ok (.slice (some ⟨w.heap.size, 0, none⟩) (V.length + 1) (V.length + 1)) (w.alloc (.cells (flat (zpts (V.length + 1))).toArray 32)) := fun w => make_pts (V.length + 1) (by omega) w
  have j1 : IntKind.i64.wrap ((V.length : Int) + 1) = (V.length : Int) + 1 := wrap_id (by omega) (by omega)
  have j2 : IntKind.i64.wrap ((V.length : Int) - 1) = (V.length : Int) - 1 := wrap_id (by omega) (by omega)
  have hcs : (Vd.lefts V f = l ∧ s = 1) ∨ (Vd.lefts V f ≠ l ∧ s = V.length - 1) := by
    by_cases h : Vd.lefts V f = l
    · exact .inl ⟨h, by rw [HSt.out, if_pos h]⟩
    · exact .inr ⟨h, by rw [HSt.out, if_neg h]⟩
  clear HSt
  generalize Vd.lefts V f = B at *
  rcases hcs with ⟨hB, hs⟩ | ⟨hB, hs⟩
  · have hB1 : (B != l) = false := by rw [hB]; simp
    have hB2 : (B == l) = true := by rw [hB]; simp
    subst hs
    clear hB
    go_wp2_with fail
    have HUp : Hid (Up w3 (w3.alloc (.cells (flat (zpts (V.length + 1))).toArray 32))) := (Up.refl _).alloc _
    have RB : Hid (PRow (w3.alloc (.cells (flat (zpts (V.length + 1))).toArray 32)) w3.heap.size (fillP L 0)) := by
      rw [fillP_zero, HLe.out]; exact VRow.new w3 _ _
    have hbase : Hid (w.heap.size ≤ w3.heap.size) := HU3.out.size
    obtain ⟨G, hG⟩ : ∃ G, w3.heap.size = G := ⟨_, rfl⟩
    rw [hG] at RB hbase ⊢
    have HG := hide hG
    generalize w3.alloc (.cells (flat (zpts (V.length + 1))).toArray 32) = W0 at *
    clear hmk hG
    go_loopw [31] (fun i wq => ∃ t : Nat, i = .int .i64 t ∧ t ≤ V.length + 1 ∧ Hid (Up w3 wq) ∧ Hid (PRow wq G (fillP L t))) (fun i _ => V.length + 1 - (intOf i).toNat)
    case atStart => exact ⟨0, rfl, Nat.zero_le _, HUp, RB⟩
    case round =>
      clear HUp RB
      obtain ⟨t, rfl, ht, HUq, RB⟩ := hrel
      by_cases hlt : t < V.length + 1
      · have hmul : t * 1 ≤ (V.length + 1) * V.length := Nat.mul_le_mul (by omega) (by omega)
        have hmul2 : (V.length + 1) * V.length ≤ 1048577 * 1048576 := Nat.mul_le_mul (by omega) (by omega)
        obtain ⟨P, hP⟩ : ∃ P, (f + t * 1) % V.length = P := ⟨_, rfl⟩
        have hPl : P < V.length := by rw [← hP]; exact Nat.mod_lt _ (by omega)
        obtain ⟨⟨px, py⟩, hp⟩ := Pl.some_of_lt hPl
        obtain ⟨ao', cap', e', hm⟩ := HR3.out
        cases e'
        obtain ⟨b, rfl, c0, c1⟩ := hm P _ hp
        have k0 := HUq.out.cell c0
        have k1 := HUq.out.cell c1
        have HLt := hide (HF.out t hlt)
        rw [hP, ptAt_some hp] at HLt
        have m3 : IntKind.i64.wrap ((f : Int) + (t : Int)) = (f : Int) + (t : Int) := wrap_id (by omega) (by omega)
        have m4 : ((f : Int) + (t : Int)).tmod (V.length : Int) = (P : Int) := by
          rw [show (f : Int) + (t : Int) = ((f + t * 1 : Nat) : Int) by omega, ← hP]; exact rfl
        have m5 : IntKind.i64.wrap (t : Int) = (t : Int) := wrap_id (by omega) (by omega)
        have n1 : (0 : Int) ≤ (P : Int) := by omega
        have n2 : (P : Int) < (V.length : Int) := by omega
        have n3 : (0 : Int) ≤ (t : Int) := by omega
        have n4 : (t : Int) < (V.length : Int) + 1 := by omega
        have hLt : t < L.length := by rw [HLe.out]; exact hlt
        have z0 := (PRow.cells RB.out (fillP_at hLt)).1
        have z1 := (PRow.cells RB.out (fillP_at hLt)).2
        have zf := fun i => VRow.frozen RB.out i
        have hlow : Hid (w3.heap.size ≤ G) := Nat.le_of_eq HG.out
        try dsimp only at k0 k1 z0 z1
        clear hm hp c0 c1 hP hmul hmul2
        go_wp2
        go_roundw
        case rel => exact ⟨t + 1, by go_num, by omega, (HUq.out.setCell hlow.out _).setCell hlow.out _, by have := PRow.set RB.out t (px, py); rw [fillP_set HLt.out] at this; exact this⟩
        case measure => simp [intOf]; omega
      · have e : t = L.length := by rw [HLe.out]; omega
        have HRr : Hid (PRow wr G L) := by have := RB.out; rw [e, fillP_all] at this; exact this
        have n4 : ¬ (t : Int) < (V.length : Int) + 1 := by omega
        clear e
        go_wp2
        go_ret
        exact ⟨G, by rw [HLe.out]; rfl, hbase.out, HRr.out, HU3.out.trans HUq.out⟩
  · have hB1 : (B != l) = true := by simpa using hB
    have hB2 : (B == l) = false := by simpa using hB
    have hsI : (V.length : Int) - 1 = (s : Int) := by omega
    clear hB hs
    go_wp2_with fail
    have HUp : Hid (Up w3 (w3.alloc (.cells (flat (zpts (V.length + 1))).toArray 32))) := (Up.refl _).alloc _
    have RB : Hid (PRow (w3.alloc (.cells (flat (zpts (V.length + 1))).toArray 32)) w3.heap.size (fillP L 0)) := by
      rw [fillP_zero, HLe.out]; exact VRow.new w3 _ _
    have hbase : Hid (w.heap.size ≤ w3.heap.size) := HU3.out.size
    obtain ⟨G, hG⟩ : ∃ G, w3.heap.size = G := ⟨_, rfl⟩
    rw [hG] at RB hbase ⊢
    have HG := hide hG
    generalize w3.alloc (.cells (flat (zpts (V.length + 1))).toArray 32) = W0 at *
    clear hmk hG
    go_loopw [31] (fun i wq => ∃ t : Nat, i = .int .i64 t ∧ t ≤ V.length + 1 ∧ Hid (Up w3 wq) ∧ Hid (PRow wq G (fillP L t))) (fun i _ => V.length + 1 - (intOf i).toNat)
    case atStart => exact ⟨0, rfl, Nat.zero_le _, HUp, RB⟩
    case round =>
      clear HUp RB
      obtain ⟨t, rfl, ht, HUq, RB⟩ := hrel
      by_cases hlt : t < V.length + 1
      · have hmul : t * s ≤ (V.length + 1) * V.length := Nat.mul_le_mul (by omega) hsl
        have hmul2 : (V.length + 1) * V.length ≤ 1048577 * 1048576 := Nat.mul_le_mul (by omega) (by omega)
        obtain ⟨P, hP⟩ : ∃ P, (f + t * s) % V.length = P := ⟨_, rfl⟩
        have hPl : P < V.length := by rw [← hP]; exact Nat.mod_lt _ (by omega)
        obtain ⟨⟨px, py⟩, hp⟩ := Pl.some_of_lt hPl
        obtain ⟨ao', cap', e', hm⟩ := HR3.out
        cases e'
        obtain ⟨b, rfl, c0, c1⟩ := hm P _ hp
        have k0 := HUq.out.cell c0
        have k1 := HUq.out.cell c1
        have HLt := hide (HF.out t hlt)
        rw [hP, ptAt_some hp] at HLt
        have m1 : (t : Int) * (s : Int) = ((t * s : Nat) : Int) := by rw [Int.natCast_mul]
        have m2 : IntKind.i64.wrap ((t : Int) * (s : Int)) = (t : Int) * (s : Int) := wrap_id (by rw [m1]; omega) (by rw [m1]; omega)
        have m3 : IntKind.i64.wrap ((f : Int) + (t : Int) * (s : Int)) = (f : Int) + (t : Int) * (s : Int) := wrap_id (by rw [m1]; omega) (by rw [m1]; omega)
        have m4 : ((f : Int) + (t : Int) * (s : Int)).tmod (V.length : Int) = (P : Int) := by
          rw [m1, show (f : Int) + ((t * s : Nat) : Int) = ((f + t * s : Nat) : Int) by omega, ← hP]; exact rfl
        have n1 : (0 : Int) ≤ (P : Int) := by omega
        have n2 : (P : Int) < (V.length : Int) := by omega
        have n3 : (0 : Int) ≤ (t : Int) := by omega
        have n4 : (t : Int) < (V.length : Int) + 1 := by omega
        have hLt : t < L.length := by rw [HLe.out]; exact hlt
        have z0 := (PRow.cells RB.out (fillP_at hLt)).1
        have z1 := (PRow.cells RB.out (fillP_at hLt)).2
        have zf := fun i => VRow.frozen RB.out i
        have hlow : Hid (w3.heap.size ≤ G) := Nat.le_of_eq HG.out
        try dsimp only at k0 k1 z0 z1
        clear hm hp c0 c1 hP m1 hmul hmul2
        go_wp2
        go_roundw
        case rel => exact ⟨t + 1, by go_num, by omega, (HUq.out.setCell hlow.out _).setCell hlow.out _, by have := PRow.set RB.out t (px, py); rw [fillP_set HLt.out] at this; exact this⟩
        case measure => simp [intOf]; omega
      · have e : t = L.length := by rw [HLe.out]; omega
        have HRr : Hid (PRow wr G L) := by have := RB.out; rw [e, fillP_all] at this; exact this
        have n4 : ¬ (t : Int) < (V.length : Int) + 1 := by omega
        clear e
        go_wp2
        go_ret
        exact ⟨G, by rw [HLe.out]; rfl, hbase.out, HRr.out, HU3.out.trans HUq.out⟩
end Go.Proofs.YtcclepohmhdpbaaGreatDoor

/- THE WALKS: package canon: inOrder. -/
namespace Go.Proofs.YtcclepohmhdpbaaGreatDoor
set_option linter.all false
open Go.RowKit Go.Deep

/-- A list's values. -/
def Vls (w : World) (v : Value) (us : List Value) : Prop := ∃ ao cap, v = .slice ao us.length cap ∧ ∀ i u, us[i]? = some u → ∃ b, ao = some ⟨b, 0, none⟩ ∧ w.cell? ⟨b, i, none⟩ = some u
theorem Vls.up {w w' : World} {v : Value} {us : List Value} (h : Vls w v us) (k : Up w w') : Vls w' v us := by
  obtain ⟨ao, cap, e, h⟩ := h
  exact ⟨ao, cap, e, fun i u hu => by obtain ⟨b, eb, c⟩ := h i u hu; exact ⟨b, eb, k.cell c⟩⟩
def usAt (us : List Value) (i : Nat) : Value := us.getD i (.slice none 0 0)
theorem usAt_some {us : List Value} {i : Nat} {u : Value} (h : us[i]? = some u) : usAt us i = u := by unfold usAt; rw [List.getD_eq_getElem?_getD, h]; rfl
/-- The values in the order of their polygons. -/
def layV (m : Mult) (us : List Value) (n : Nat) : List Value := Vd.layN (fun i => Vd.cntA m i m.length) (usAt us) (znil m.length) n
theorem layV_len (m : Mult) (us : List Value) (n : Nat) : (layV m us n).length = m.length := by unfold layV; rw [Vd.layN_len]; simp [znil]
theorem layV_succ (m : Mult) (us : List Value) (n : Nat) : layV m us (n + 1) = (layV m us n).set (Vd.cntA m n m.length) (usAt us n) := by unfold layV; rw [Vd.layN_succ]
theorem layV_at {m : Mult} {us : List Value} {i : Nat} (hi : i < m.length) : (layV m us m.length)[Vd.cntA m i m.length]? = some (usAt us i) :=
  Vd.layN_at (f := fun i => Vd.cntA m i m.length) (N := m.length) (fun i h => by simpa [znil] using Vd.cnt_small h) (fun i k h1 h2 => Vd.cnt_inj h1 h2) m.length (Nat.le_refl _) i hi
set_option maxRecDepth 8000 in
set_option maxHeartbeats 4000000 in
theorem inOrder_any (v : Value) (m : Mult) (us : List Value) (w : World) (hv : Rd3 w v m) (hu : Vls w v us) (hlen : us.length = m.length) (hm : m.length ≤ 1048576) (hl : ∀ l ∈ m, l.length ≤ 1048576) (hr : ∀ l ∈ m, ∀ r ∈ l, r.length ≤ 1048576) :
    Calls Tryz.prog 132 #[v] w fun e w' => ∃ G : Nat, e = .returned (.slice (some ⟨G, 0, none⟩) m.length m.length) ∧ w.heap.size ≤ G ∧ VRow w' G 33 (layV m us m.length) ∧ Up w w' := by
  have HL := hide hl
  have HR := hide hr
  obtain ⟨ao, cap, rfl, hU⟩ := hu
  have HUs := hide hU
  have HLn := hide hlen
  rw [hlen] at hv ⊢
  have HV := hide hv
  have HSl : Hid (∀ (i : Nat) (u : Value), us[i]? = some u → ∃ a n c, u = .slice a n c) := fun i u hu => by
    obtain ⟨b, e, c⟩ := HUs.out i u hu
    obtain ⟨ao2, cap2, e2, h2⟩ := HV.out
    cases e2
    obtain ⟨l, hl⟩ := Pl.some_of_lt (show i < m.length by rw [← HLn.out]; exact Pl.lt_of_some hu)
    obtain ⟨b', u', e', c', hu'⟩ := h2 i l hl
    rw [e] at e'
    cases e'
    rw [c] at c'
    cases c'
    obtain ⟨a, cp, rfl, -⟩ := hu'
    exact ⟨_, _, _, rfl⟩
  have hmk := make_polys m.length (by omega)
  clear hv hl hr hU hlen
  go_enter Tryz.func132, Tryz.ntmps132
  go_wp2
  have HUp : Hid (Up w (w.alloc (.cells (znil m.length).toArray 33))) := (Up.refl _).alloc _
  have RB : Hid (VRow (w.alloc (.cells (znil m.length).toArray 33)) w.heap.size 33 (layV m us 0)) := VRow.new w _ _
  obtain ⟨G, hG⟩ : ∃ G, w.heap.size = G := ⟨_, rfl⟩
  rw [hG] at RB ⊢
  have HG := hide hG
  generalize w.alloc (.cells (znil m.length).toArray 33) = W0 at *
  clear hmk hG
  go_loopw [11] (fun i wq => ∃ t : Nat, i = .int .i64 t ∧ t ≤ m.length ∧ Hid (Up w wq) ∧ Hid (VRow wq G 33 (layV m us t))) (fun i _ => m.length - (intOf i).toNat)
  case atStart => exact ⟨0, rfl, Nat.zero_le _, HUp, RB⟩
  case round =>
    clear HUp RB
    obtain ⟨k, rfl, hk, HU, RB⟩ := hrel
    by_cases hlt : k < m.length
    · obtain ⟨u, hu⟩ := Pl.some_of_lt (show k < us.length by rw [HLn.out]; exact hlt)
      obtain ⟨b, rfl, c0⟩ := HUs.out k u hu
      obtain ⟨ua, un, uc, rfl⟩ := HSl.out k u hu
      have HX := hide (layV_succ m us k)
      rw [usAt_some hu] at HX
      have e0 := HU.out.cell c0
      have hcl := Vd.cnt_small (m := m) hlt
      have HKc := hide (countAhead_any _ m k wr (HV.out.up HU.out) hlt hm HL.out HR.out)
      generalize Vd.cntA m k m.length = C at *
      have i1 : (0 : Int) ≤ (k : Int) := by omega
      have i2 : (k : Int) < (m.length : Int) := by omega
      have i3 : (0 : Int) ≤ (C : Int) := by omega
      have i4 : (C : Int) < (m.length : Int) := by omega
      clear hu c0
      go_wp2_with fail
      refine HKc.out.mono ?_
      rintro e w2 ⟨rfl, hu2⟩
      have HU2 := hide (HU.out.trans hu2)
      have RB2 := hide (RB.out.up hu2)
      obtain ⟨z, hz⟩ := Pl.some_of_lt (show C < (layV m us k).length by rw [layV_len]; exact hcl)
      have z0 := RB2.out.cell hz
      have zf := fun i => RB2.out.frozen i
      have hlow : Hid (w.heap.size ≤ G) := Nat.le_of_eq HG.out
      try dsimp only at z0 zf
      clear hu2 e0 HKc hz RB
      go_wp2
      go_roundw
      case rel => exact ⟨k + 1, by go_num, by omega, HU2.out.setCell hlow.out _, by rw [HX.out]; exact RB2.out.set C _⟩
      case measure => simp [intOf]; omega
    · have hk2 : k = m.length := by omega
      have HRr : Hid (VRow wr G 33 (layV m us m.length)) := by have := RB.out; rw [hk2] at this; exact this
      have i2 : ¬ (k : Int) < (m.length : Int) := by omega
      clear hk2
      go_wp2
      go_ret
      exact ⟨G, rfl, Nat.le_of_eq HG.out, HRr.out, HU.out⟩
end Go.Proofs.YtcclepohmhdpbaaGreatDoor

/- LISTS THAT ARE KEPT. -/
namespace Go.Proofs.YtcclepohmhdpbaaGreatDoor
set_option linter.all false
open Go.RowKit Go.Deep

theorem el_pt : Elem Tryz.prog 30 32 (.agg #[.int .i64 0, .int .i64 0]) 2 16 := ⟨und_pts, info_pt, rfl, by omega, by omega⟩

/-! ### Lists that are kept -/
theorem bl1 {x : L1} {b : Nat} (h : b ∈ x.bl) : x.v.ownBlock = some b := by simpa [L1.bl] using h
theorem L1.ok.row_ne {w : World} {x : L1} (h : x.ok w) {b : Nat} {t : TypeId} {vs : List Value} (hb : VRow w b t vs) (h3 : t ≠ 32) : b ∉ x.bl := fun e => own_row_ne h hb (Ne.symm h3) (bl1 e)
theorem L2.ok.row_ne {w : World} {x : L2} (h : x.ok w) {b : Nat} {t : TypeId} {vs : List Value} (hb : VRow w b t vs) (h2 : t ≠ 30) (h3 : t ≠ 32) : b ∉ x.bl := fun e => by
  simp only [L2.bl, List.mem_append, List.mem_flatMap] at e
  rcases e with e | ⟨y, hy, e⟩
  · exact own_row_ne h.row hb (Ne.symm h2) (by simpa using e)
  · exact (h.sub y hy).row_ne hb h3 e
theorem L3.ok.row_ne {w : World} {x : L3} (h : x.ok w) {b : Nat} {t : TypeId} {vs : List Value} (hb : VRow w b t vs) (h1 : t ≠ 33) (h2 : t ≠ 30) (h3 : t ≠ 32) : b ∉ x.bl := fun e => by
  simp only [L3.bl, List.mem_append, List.mem_flatMap] at e
  rcases e with e | ⟨y, hy, e⟩
  · exact own_row_ne h.row hb (Ne.symm h1) (by simpa using e)
  · exact (h.sub y hy).row_ne hb h2 h3 e
theorem L1.ok.fr {S : Nat → Prop} {w w' : World} {x : L1} (h : x.ok w) (k : Fr S w w') (hs : ∀ b ∈ x.bl, ¬ S b) : x.ok w' := h.of fun b hb => k.block b (h.lt b hb) (hs b hb)
theorem L2.ok.fr {S : Nat → Prop} {w w' : World} {x : L2} (h : x.ok w) (k : Fr S w w') (hs : ∀ b ∈ x.bl, ¬ S b) : x.ok w' := h.of fun b hb => k.block b (h.lt b hb) (hs b hb)
theorem L3.ok.fr {S : Nat → Prop} {w w' : World} {x : L3} (h : x.ok w) (k : Fr S w w') (hs : ∀ b ∈ x.bl, ¬ S b) : x.ok w' := h.of fun b hb => k.block b (h.lt b hb) (hs b hb)
theorem L1.ok.up {w w' : World} {x : L1} (h : x.ok w) (k : Up w w') : x.ok w' := h.of fun b hb => k.block b (h.lt b hb)
theorem L2.ok.up {w w' : World} {x : L2} (h : x.ok w) (k : Up w w') : x.ok w' := h.of fun b hb => k.block b (h.lt b hb)
theorem L3.ok.up {w w' : World} {x : L3} (h : x.ok w) (k : Up w w') : x.ok w' := h.of fun b hb => k.block b (h.lt b hb)
theorem own_ne {w : World} {base base' : Nat} {e e' : TypeId} {size size' : Nat} {v v' : Value} {n n' : Nat} {xs xs' : List Value} (h : w.ownsRow base e size v n xs) (h' : w.ownsRow base' e' size' v' n' xs') (he : e ≠ e') {b : Nat} (hb : v.ownBlock = some b) : ¬ v'.ownBlock = some b := fun hb' => by
  rcases own_apart h h' he with k | k
  · rw [hb] at k; cases k
  · exact k (hb.trans hb'.symm)
theorem L1.ok.grown {w w' : World} {y : L1} {base n : Nat} {v : Value} {xs : List Value} (h : y.ok w) {e : TypeId} (ho : w.ownsRow base e 1 v n xs) (he : 32 ≠ e) (hg : w.grownBy w' v.ownBlock) : y.ok w' :=
  h.fr (Fr.of_grown hg) fun b hb => own_ne h ho he (bl1 hb)
theorem L2.ok.grown {w w' : World} {y : L2} {base n : Nat} {v : Value} {xs : List Value} (h : y.ok w) {e : TypeId} (ho : w.ownsRow base e 1 v n xs) (he : 32 ≠ e) (he2 : 30 ≠ e) (hg : w.grownBy w' v.ownBlock) : y.ok w' :=
  h.fr (Fr.of_grown hg) fun b hb e => by
    simp only [L2.bl, List.mem_append, List.mem_flatMap] at hb
    rcases hb with hb | ⟨z, hz, hb⟩
    · exact own_ne h.row ho he2 (by simpa using hb) e
    · exact own_ne (h.sub z hz) ho he (bl1 hb) e

def nil3 : L3 := ⟨.slice none 0 0, []⟩
theorem nil3_ok (w : World) : nil3.ok w := ⟨World.ownsRow_nil _ _ _ _, by simp [nil3]⟩

end Go.Proofs.YtcclepohmhdpbaaGreatDoor

/- THE WALKS: package canon: polygonForm. -/
namespace Go.Proofs.YtcclepohmhdpbaaGreatDoor
set_option linter.all false
open Go.RowKit Go.Deep

/-- A ring that was laid: its block, its points. -/
structure RG where
  g : Nat
  r : Ring
def RG.v (q : RG) : Value := .slice (some ⟨q.g, 0, none⟩) q.r.length q.r.length
def RG.ok (base : Nat) (w : World) (q : RG) : Prop := base ≤ q.g ∧ PRow w q.g q.r
theorem RG.ok.up {base : Nat} {w w' : World} {q : RG} (h : q.ok base w) (k : Up w w') : q.ok base w' := ⟨h.1, VRow.up h.2 k⟩
theorem RG.ok.grown {base base' n : Nat} {w w' : World} {q : RG} {v : Value} {xs : List Value} {e : TypeId} (h : q.ok base w) (ho : w.ownsRow base' e 1 v n xs) (he : e ≠ 32) (hg : w.grownBy w' v.ownBlock) : q.ok base w' := ⟨h.1, VRow.grown h.2 hg (own_row_ne ho h.2 he)⟩
/-- The rings of a polygon that is being laid. -/
structure QF (base : Nat) (w : World) (v : Value) (Q : List RG) : Prop where
  own : w.ownsRow base 30 1 v Q.length (Q.map RG.v)
  ok : ∀ q ∈ Q, q.ok base w
theorem QF.up {base : Nat} {w w' : World} {v : Value} {Q : List RG} (h : QF base w v Q) (k : Up w w') : QF base w' v Q := ⟨own_up h.own k, fun q hq => (h.ok q hq).up k⟩
/-- A hole by itself: the list that holds it, its block, its points. -/
structure HB where
  p : Nat
  q : RG
def HB.v (h : HB) : Value := .slice (some ⟨h.p, 0, none⟩) 1 1
def HB.ok (base : Nat) (w : World) (h : HB) : Prop := base ≤ h.p ∧ VRow w h.p 30 [h.q.v] ∧ h.q.ok base w
theorem HB.ok.up {base : Nat} {w w' : World} {q : HB} (h : q.ok base w) (k : Up w w') : q.ok base w' := ⟨h.1, h.2.1.up k, h.2.2.up k⟩
structure QH (base : Nat) (w : World) (fv v : Value) (H : List HB) : Prop where
  own : w.ownsRow base 33 1 v H.length (H.map HB.v)
  ok : ∀ h ∈ H, h.ok base w
  ne : ∀ h ∈ H, fv.ownBlock ≠ some h.p
theorem QH.up {base : Nat} {w w' : World} {fv v : Value} {H : List HB} (h : QH base w fv v H) (k : Up w w') : QH base w' fv v H := ⟨own_up h.own k, fun q hq => (h.ok q hq).up k, h.ne⟩
theorem own_grown {base base' n n' s s' : Nat} {w w' : World} {v v' : Value} {xs xs' : List Value} {e e' : TypeId} (h : w.ownsRow base e s v n xs) (ho : w.ownsRow base' e' s' v' n' xs') (he : e ≠ e') (hg : w.grownBy w' v'.ownBlock) : w'.ownsRow base e s v n xs :=
  own_of_block h fun g hb => hg.block g (own_lt h hb).2 (fun e2 => own_ne h ho he hb e2.symm)
/-- One ring more in the polygon. -/
theorem QF.push {base : Nat} {w w' : World} {v : Value} {Q : List RG} {q : RG} {g cap : Nat} (h : QF base w v Q) (hq : q.ok base w) (hg : w.grownBy w' v.ownBlock) (hown : w'.ownsRow base 30 1 (.slice (some ⟨g, 0, none⟩) (Q.length + 1) cap) (Q.length + 1) (Q.map RG.v ++ [q.v])) : QF base w' (.slice (some ⟨g, 0, none⟩) (Q.length + 1) cap) (Q ++ [q]) := by
  refine ⟨by rw [List.map_append, List.length_append]; exact hown, fun x hx => ?_⟩
  rcases List.mem_append.1 hx with hx | hx
  · exact (h.ok x hx).grown h.own (by decide) hg
  · rw [List.mem_singleton.1 hx]; exact hq.grown h.own (by decide) hg
theorem QF.byH {base : Nat} {w w' : World} {fv v : Value} {Q : List RG} {H : List HB} (h : QF base w fv Q) (k : QH base w fv v H) (hg : w.grownBy w' v.ownBlock) : QF base w' fv Q :=
  ⟨own_grown h.own k.own (by decide) hg, fun x hx => (h.ok x hx).grown k.own (by decide) hg⟩
theorem HB.ok.byF {base : Nat} {w w' : World} {fv : Value} {Q : List RG} {h : HB} (k : h.ok base w) (hf : QF base w fv Q) (hne : fv.ownBlock ≠ some h.p) (hg : w.grownBy w' fv.ownBlock) : h.ok base w' := ⟨k.1, k.2.1.grown hg hne, k.2.2.grown hf.own (by decide) hg⟩
theorem QH.byF {base : Nat} {w w' : World} {fv v : Value} {Q : List RG} {H : List HB} {g cap n : Nat} (k : QH base w fv v H) (h : QF base w fv Q) (hg : w.grownBy w' fv.ownBlock) (hat : fv.ownBlock = some g ∨ g = w.heap.size) : QH base w' (.slice (some ⟨g, 0, none⟩) n cap) v H := by
  refine ⟨own_grown k.own h.own (by decide) hg, fun x hx => (k.ok x hx).byF h (k.ne x hx) hg, fun x hx e => ?_⟩
  have hlt : x.p < w.heap.size := VRow.lt (k.ok x hx).2.1
  have e' : g = x.p := Option.some.inj e
  rcases hat with e2 | e2
  · exact k.ne x hx (e' ▸ e2)
  · omega
theorem QH.push {base : Nat} {w w' : World} {fv v : Value} {H : List HB} {x : HB} {g cap : Nat} (h : QH base w fv v H) (hx : x.ok base w) (hne : fv.ownBlock ≠ some x.p) (hg : w.grownBy w' v.ownBlock) (hown : w'.ownsRow base 33 1 (.slice (some ⟨g, 0, none⟩) (H.length + 1) cap) (H.length + 1) (H.map HB.v ++ [x.v])) : QH base w' fv (.slice (some ⟨g, 0, none⟩) (H.length + 1) cap) (H ++ [x]) := by
  refine ⟨by rw [List.map_append, List.length_append]; exact hown, fun y hy => ?_, fun y hy => ?_⟩
  · have one : ∀ y : HB, y.ok base w → y.ok base w' := fun y k => ⟨k.1, k.2.1.grown hg (own_row_ne h.own k.2.1 (by decide)), k.2.2.grown h.own (by decide) hg⟩
    rcases List.mem_append.1 hy with hy | hy
    · exact one y (h.ok y hy)
    · rw [List.mem_singleton.1 hy]; exact one x hx
  · rcases List.mem_append.1 hy with hy | hy
    · exact h.ne y hy
    · rw [List.mem_singleton.1 hy]; exact hne
theorem QF.nil (base : Nat) (w : World) : QF base w (.slice none 0 0) [] := ⟨World.ownsRow_nil _ _ _ _, fun q hq => by simp at hq⟩
theorem QH.nil (base : Nat) (w : World) : QH base w (.slice none 0 0) (.slice none 0 0) [] := ⟨World.ownsRow_nil _ _ _ _, fun q hq => by simp at hq, fun q hq => by simp at hq⟩
/-- The holes as they are read. -/
def HB.m (H : List HB) : Mult := H.map fun h => [h.q.r]
theorem RG.ok.rd {base : Nat} {w : World} {q : RG} (h : q.ok base w) : Rd1 w q.v q.r :=
  ⟨some ⟨q.g, 0, none⟩, _, rfl, fun i p hp => ⟨q.g, rfl, (PRow.cells h.2 hp).1, (PRow.cells h.2 hp).2⟩⟩
theorem QH.rd {base : Nat} {w : World} {fv v : Value} {H : List HB} (h : QH base w fv v H) : Rd3 w v (HB.m H) ∧ Vls w v (H.map HB.v) := by
  obtain ⟨ao, cap, e⟩ := own_len h.own
  have key : ∀ i x, H[i]? = some x → ∃ g, ao = some ⟨g, 0, none⟩ ∧ w.cell? ⟨g, i, none⟩ = some x.v := fun i x hx => by
    obtain ⟨g, cap', e', hc⟩ := own_cell h.own (by have := Pl.lt_of_some hx; omega)
    rw [e] at e'
    cases e'
    exact ⟨g, rfl, hc i _ (by rw [List.getElem?_map, hx]; rfl)⟩
  constructor
  · refine ⟨ao, cap, by rw [e]; simp [HB.m], fun i l hl => ?_⟩
    unfold HB.m at hl
    rw [List.getElem?_map, Option.map_eq_some_iff] at hl
    obtain ⟨x, hx, rfl⟩ := hl
    obtain ⟨g, eg, c⟩ := key i x hx
    refine ⟨g, x.v, eg, c, some ⟨x.p, 0, none⟩, 1, rfl, fun j r hr => ?_⟩
    cases j with
    | zero =>
      simp at hr; subst hr
      exact ⟨x.p, x.q.v, rfl, (h.ok x (Pl.mem_of_some hx)).2.1.cell (i := 0) rfl, (h.ok x (Pl.mem_of_some hx)).2.2.rd⟩
    | succ j => simp at hr
  · refine ⟨ao, cap, by rw [e]; simp, fun i u hu => ?_⟩
    rw [List.getElem?_map, Option.map_eq_some_iff] at hu
    obtain ⟨x, hx, rfl⟩ := hu
    obtain ⟨g, eg, c⟩ := key i x hx
    exact ⟨g, eg, c⟩
/-- The holes in their order. -/
def ordH (H : List HB) : List HB := Vd.layN (fun i => Vd.cntA (HB.m H) i H.length) (fun i => H.getD i ⟨0, ⟨0, []⟩⟩) (List.replicate H.length ⟨0, ⟨0, []⟩⟩) H.length
theorem ordH_len (H : List HB) : (ordH H).length = H.length := by unfold ordH; rw [Vd.layN_len]; simp
theorem HB.m_len (H : List HB) : (HB.m H).length = H.length := by simp [HB.m]
theorem ordH_at {H : List HB} {j : Nat} (hj : j < H.length) : ∃ (i : Nat) (x : HB), H[i]? = some x ∧ Vd.cntA (HB.m H) i H.length = j ∧ (ordH H)[j]? = some x := by
  obtain ⟨i, hi, e⟩ := Vd.cnt_surj (m := HB.m H) hj
  obtain ⟨x, hx⟩ := Pl.some_of_lt hi
  refine ⟨i, x, hx, e, ?_⟩
  rw [← e]
  unfold ordH
  rw [Vd.layN_at (f := fun i => Vd.cntA (HB.m H) i H.length) (N := H.length) (fun i h => by simpa using Vd.cnt_small h) (fun i k h1 h2 => Vd.cnt_inj h1 h2) H.length (Nat.le_refl _) i hi, List.getD_eq_getElem?_getD, hx]; rfl
theorem ordH_mem {H : List HB} {x : HB} (h : x ∈ ordH H) : x ∈ H := by
  obtain ⟨j, hj⟩ := List.getElem?_of_mem h
  have := Pl.lt_of_some hj
  rw [ordH_len] at this
  obtain ⟨i, y, hy, -, e⟩ := ordH_at this
  rw [hj] at e
  cases e
  exact Pl.mem_of_some hy
theorem ordH_vals (H : List HB) : layV (HB.m H) (H.map HB.v) (HB.m H).length = (ordH H).map HB.v := by
  refine List.ext_getElem? fun j => ?_
  rcases Nat.lt_or_ge j H.length with hj | hj
  · obtain ⟨i, x, hx, e, ho⟩ := ordH_at hj
    rw [List.getElem?_map, ho]
    have := layV_at (m := HB.m H) (us := H.map HB.v) (i := i) (by rw [HB.m_len]; exact Pl.lt_of_some hx)
    rw [HB.m_len, e] at this
    rw [HB.m_len, this, usAt_some (u := x.v) (by rw [List.getElem?_map, hx]; rfl)]; rfl
  · rw [List.getElem?_eq_none (by rw [layV_len, HB.m_len]; exact hj), List.getElem?_eq_none (by rw [List.length_map, ordH_len]; exact hj)]
theorem ordH_rings (H : List HB) : Vd.inOrder (HB.m H) = (ordH H).map fun h => [h.q.r] := by
  refine List.ext_getElem? fun j => ?_
  rcases Nat.lt_or_ge j H.length with hj | hj
  · obtain ⟨i, x, hx, e, ho⟩ := ordH_at hj
    rw [List.getElem?_map, ho]
    have := Vd.inOrder_at (HB.m H) (i := i) (by rw [HB.m_len]; exact Pl.lt_of_some hx)
    rw [HB.m_len, e] at this
    rw [this]
    have h2 : (HB.m H)[i]? = some [x.q.r] := by unfold HB.m; rw [List.getElem?_map, hx]; rfl
    rw [pAt_some h2]; rfl
  · rw [List.getElem?_eq_none (by rw [Vd.inOrder_len, HB.m_len]; exact hj), List.getElem?_eq_none (by rw [List.length_map, ordH_len]; exact hj)]
theorem flat_one1 (L : List HB) : (L.map fun h => [h.q.r]).flatten = L.map fun h => h.q.r := by
  induction L with
  | nil => rfl
  | cons a t ih => simp [ih]

/-- What is asked of a ring that has a form. -/
structure RZ (r : Ring) : Prop where
  len : r.length ≤ 1048575
  cd : Vd.CdR r
  cn : (Vd.corners r).length ≠ 0
theorem form_len {r : Ring} {l : Bool} (h : RZ r) : (Vd.ringForm r l).length ≤ 1048576 := by
  rw [Vd.rForm_len h.cn]
  have : (Vd.corners r).length ≤ r.length := Vd.cornersI_len r r.length
  have := h.len
  omega
set_option maxRecDepth 8000 in
set_option maxHeartbeats 8000000 in
theorem polygonForm_any (v : Value) (l : Poly) (w : World) (hv : Rd2 w v l) (hl : l.length ≤ 1048576) (hz : ∀ r ∈ l, RZ r) :
    Calls Tryz.prog 131 #[v] w fun e w' => ∃ (fv : Value) (Q : List RG), e = .returned fv ∧ QF w.heap.size w' fv Q ∧ Q.map RG.r = Vd.polyForm l ∧ Up w w' := by
  obtain ⟨ao, cap, rfl, hm⟩ := hv
  have HM := hide hm
  have HZ := hide hz
  clear hm hz
  go_enter Tryz.func131, Tryz.ntmps131
  go_wp2
  go_loopw [3, 4, 11] (fun fv hv i wr => ∃ (k : Nat) (u x : Value) (Q : List RG) (H : List HB), i = .int .i64 k ∧ u = fv ∧ x = hv ∧ k ≤ l.length ∧ Hid (Up w wr) ∧ Hid (QF w.heap.size wr u Q) ∧ Hid (QH w.heap.size wr u x H) ∧ Hid (Q.map RG.r = ((l.take k).take 1).map (Vd.ringForm · true)) ∧ Hid ((H.map fun h => h.q.r) = ((l.take k).drop 1).map (Vd.ringForm · false))) (fun _ _ i _ => l.length - (intOf i).toNat)
  case atStart => exact ⟨0, _, _, [], [], rfl, rfl, rfl, Nat.zero_le _, Up.refl _, QF.nil _ _, QH.nil _ _, rfl, rfl⟩
  case round =>
    obtain ⟨k, u, x, Q, H, rfl, rfl, rfl, hk, HU, HQ, HH, HE1, HE2⟩ := hrel
    by_cases hlt : k < l.length
    · obtain ⟨r, hr⟩ := Pl.some_of_lt hlt
      obtain ⟨b, y, rfl, cy, hy⟩ := HM.out k r hr
      have e0 := HU.out.cell cy
      have Hy := hide (hy.up HU.out)
      have HZr := hide (HZ.out r (Pl.mem_of_some hr))
      have HTk := hide (Pl.take_one hr)
      have i1 : (0 : Int) ≤ (k : Int) := by omega
      have i2 : (k : Int) < (l.length : Int) := by omega
      have hsz : Hid (w.heap.size ≤ wr.heap.size) := HU.out.size
      have hQl : Hid (Q.length ≤ 1073741824) := by
        have := congrArg List.length HE1.out
        simp only [List.length_map, List.length_take] at this
        show _ ≤ _; omega
      have hHl : Hid (H.length ≤ 1073741824) := by
        have := congrArg List.length HE2.out
        simp only [List.length_map, List.length_take, List.length_drop] at this
        show _ ≤ _; omega
      clear hr cy hy
      by_cases hk0 : k = 0
      · subst hk0
        have HE1n : Hid (∀ q : RG, q.r = Vd.ringForm r true → (Q ++ [q]).map RG.r = ((l.take (0 + 1)).take 1).map (Vd.ringForm · true)) := fun q hq => by
          rw [List.map_append, HE1.out, HTk.out]; simp [hq]
        have HE2n : Hid ((H.map fun h => h.q.r) = ((l.take (0 + 1)).drop 1).map (Vd.ringForm · false)) := by
          rw [HE2.out, HTk.out]; simp [Hid]
        go_wp2_with fail
        refine (ringForm_any _ r true _ Hy.out HZr.out.len HZr.out.cd HZr.out.cn).mono ?_
        rintro e w2 ⟨g, rfl, hg, hP, hu2⟩
        have HU2 := hide hu2
        have Hq : Hid (RG.ok w.heap.size w2 ⟨g, Vd.ringForm r true⟩) := ⟨Nat.le_trans hsz.out hg, hP⟩
        generalize hF : Vd.ringForm r true = F at *
        clear hu2 hP e0 hF
        have HUa : Hid (Up wr (w2.alloc (.cells #[.slice (some ⟨g, 0, none⟩) F.length F.length] 30))) := HU2.out.alloc _
        have Hqa : Hid (RG.ok w.heap.size (w2.alloc (.cells #[.slice (some ⟨g, 0, none⟩) F.length F.length] 30)) ⟨g, F⟩) := Hq.out.up ((Up.refl _).alloc _)
        have HQa := hide (HQ.out.up HUa.out)
        have HHa := hide (HH.out.up HUa.out)
        have hsz2 : Hid (w.heap.size ≤ w2.heap.size) := Nat.le_trans hsz.out HU2.out.size
        have hHeap : Hid ((w2.alloc (.cells #[.slice (some ⟨g, 0, none⟩) F.length F.length] 30)).heap[w2.heap.size]? = some (.cells [Value.slice (some ⟨g, 0, none⟩) F.length F.length].toArray 30 (0, 0))) := VRow.new w2 [.slice (some ⟨g, 0, none⟩) F.length F.length] 30
        have hBs : Hid (w.heap.size ≤ (w2.alloc (.cells #[.slice (some ⟨g, 0, none⟩) F.length F.length] 30)).heap.size) := by
          have := hsz2.out; simp [Hid]; omega
        obtain ⟨xa, xc, rfl⟩ := own_len HH.out.own
        obtain ⟨ua, uc, rfl⟩ := own_len HQ.out.own
        go_wp2_with (at_builtin; refine wpList_app el_rings rfl (.tmp 18) (.tmp 21) rfl w.heap.size _ _ _ (by rfl) HQa.out.own w2.heap.size [.slice (some ⟨g, 0, none⟩) F.length F.length] (by rfl) rfl hHeap.out (by intro z hz; simp at hz; subst hz; rfl) hQl.out hBs.out ?_; intro g5 cap5 w5 hown5 hg5 hat5 hlt5; have HQ5 := hide (HQa.out.push Hqa.out hg5 hown5); have HH5 := hide (HHa.out.byF (n := Q.length + 1) (cap := cap5) HQa.out hg5 hat5); have HU5 : Hid (Up w w5) := Fr.up (S := fun _ => False) ((Fr.of_up (HU.out.trans HUa.out)).grown hg5 fun z hz => .inr (own_lt HQ.out.own hz).1) (fun _ _ h => h); clear hown5 hg5 hat5 hlt5)
        go_roundw
        case rel => exact ⟨0 + 1, _, _, _, H, by go_num, rfl, rfl, by omega, HU5, HQ5, HH5, HE1n.out _ rfl, HE2n⟩
        case measure => simp [intOf]; omega
      · have hk0' : ((k : Int) == 0) = false := beq_eq_false_iff_ne.2 (by omega)
        have HE1n : Hid (Q.map RG.r = ((l.take (k + 1)).take 1).map (Vd.ringForm · true)) := by
          rw [HE1.out, HTk.out]; show _ = _; rw [List.take_append_of_le_length (by rw [List.length_take]; omega)]
        have HE2n : Hid (∀ q : HB, q.q.r = Vd.ringForm r false → ((H ++ [q]).map fun h => h.q.r) = ((l.take (k + 1)).drop 1).map (Vd.ringForm · false)) := fun q hq => by
          rw [List.map_append, HE2.out, HTk.out, List.drop_append_of_le_length (by rw [List.length_take]; omega), List.map_append]; simp [hq]
        clear hk0
        go_wp2_with fail
        refine (ringForm_any _ r false _ Hy.out HZr.out.len HZr.out.cd HZr.out.cn).mono ?_
        rintro e w2 ⟨g, rfl, hg, hP, hu2⟩
        have HU2 := hide hu2
        have Hq : Hid (RG.ok w.heap.size w2 ⟨g, Vd.ringForm r false⟩) := ⟨Nat.le_trans hsz.out hg, hP⟩
        have hfl := hide (form_len (l := false) HZr.out)
        generalize hF : Vd.ringForm r false = F at *
        clear hu2 hP e0 hF
        have HUa : Hid (Up wr ((w2.alloc (.cells #[.slice (some ⟨g, 0, none⟩) F.length F.length] 30)).alloc (.cells #[.slice (some ⟨w2.heap.size, 0, none⟩) 1 1] 33))) := (HU2.out.alloc _).alloc _
        have HXo : Hid (HB.ok w.heap.size ((w2.alloc (.cells #[.slice (some ⟨g, 0, none⟩) F.length F.length] 30)).alloc (.cells #[.slice (some ⟨w2.heap.size, 0, none⟩) 1 1] 33)) ⟨w2.heap.size, ⟨g, F⟩⟩) :=
          ⟨Nat.le_trans hsz.out HU2.out.size, (VRow.new w2 _ _).up ((Up.refl _).alloc _), Hq.out.up (((Up.refl _).alloc _).alloc _)⟩
        have HQa := hide (HQ.out.up HUa.out)
        have HHa := hide (HH.out.up HUa.out)
        have hne : Hid (u.ownBlock ≠ some w2.heap.size) := fun e => by have := (own_lt HQ.out.own e).2; have := HU2.out.size; omega
        have hsz2 : Hid (w.heap.size ≤ w2.heap.size) := Nat.le_trans hsz.out HU2.out.size
        have hHeap : Hid (((w2.alloc (.cells #[.slice (some ⟨g, 0, none⟩) F.length F.length] 30)).alloc (.cells #[.slice (some ⟨w2.heap.size, 0, none⟩) 1 1] 33)).heap[w2.heap.size + 1]? = some (.cells [Value.slice (some ⟨w2.heap.size, 0, none⟩) 1 1].toArray 33 (0, 0))) := by
          have := VRow.new (w2.alloc (.cells #[.slice (some ⟨g, 0, none⟩) F.length F.length] 30)) [.slice (some ⟨w2.heap.size, 0, none⟩) 1 1] 33
          unfold VRow at this
          rw [show (w2.alloc (.cells #[.slice (some ⟨g, 0, none⟩) F.length F.length] 30)).heap.size = w2.heap.size + 1 by simp] at this
          exact this
        have hBs : Hid (w.heap.size ≤ ((w2.alloc (.cells #[.slice (some ⟨g, 0, none⟩) F.length F.length] 30)).alloc (.cells #[.slice (some ⟨w2.heap.size, 0, none⟩) 1 1] 33)).heap.size) := by
          have := hsz2.out; simp [Hid]; omega
        obtain ⟨xa, xc, rfl⟩ := own_len HH.out.own
        obtain ⟨ua, uc, rfl⟩ := own_len HQ.out.own
        go_wp2_with (at_builtin; refine wpList_app el_polys rfl (.tmp 23) (.tmp 27) rfl w.heap.size _ _ _ (by rfl) HHa.out.own (w2.heap.size + 1) [.slice (some ⟨w2.heap.size, 0, none⟩) 1 1] (by rfl) rfl hHeap.out (by intro z hz; simp at hz; subst hz; rfl) hHl.out hBs.out ?_; intro g5 cap5 w5 hown5 hg5 hat5 hlt5; have HH5 := hide (HHa.out.push HXo.out hne.out hg5 hown5); have HQ5 := hide (HQa.out.byH HHa.out hg5); have HU5 : Hid (Up w w5) := Fr.up (S := fun _ => False) ((Fr.of_up (HU.out.trans HUa.out)).grown hg5 fun z hz => .inr (own_lt HH.out.own hz).1) (fun _ _ h => h); clear hown5 hg5 hat5 hlt5)
        go_roundw
        case rel => exact ⟨k + 1, _, _, Q, _, by go_num, rfl, rfl, by omega, HU5, HQ5, HH5, HE1n, HE2n.out _ rfl⟩
        case measure => simp [intOf]; omega
    · have i2 : ¬ (k : Int) < (l.length : Int) := by omega
      have hkl : k = l.length := by omega
      have HF1 : Hid (Q.map RG.r = (l.take 1).map (Vd.ringForm · true)) := by have := HE1.out; rw [hkl, List.take_length] at this; exact this
      have HF2 : Hid ((H.map fun h => h.q.r) = (l.drop 1).map (Vd.ringForm · false)) := by have := HE2.out; rw [hkl, List.take_length] at this; exact this
      have hHl : H.length ≤ 1048576 := by
        have := congrArg List.length HF2.out
        simp only [List.length_map, List.length_drop] at this
        omega
      have hQl : Q.length ≤ 1 := by
        have := congrArg List.length HF1.out
        simp only [List.length_map, List.length_take] at this
        omega
      have HRl : Hid (∀ h ∈ H, h.q.r.length ≤ 1048576) := fun h hh => by
        have : h.q.r ∈ (l.drop 1).map (Vd.ringForm · false) := by rw [← HF2.out]; exact List.mem_map.2 ⟨h, hh, rfl⟩
        obtain ⟨r, hr, e⟩ := List.mem_map.1 this
        rw [← e]
        exact form_len (HZ.out r (List.mem_of_mem_drop hr))
      have HPF : Hid (∀ Q' : List RG, Q'.map RG.r = Q.map RG.r ++ ((ordH H).map fun h => h.q.r) → Q'.map RG.r = Vd.polyForm l) := fun Q' hQ' => by
        rw [hQ', HF1.out]
        cases l with
        | nil =>
          have hn : H = [] := by have := congrArg List.length HF2.out; simp at this; exact this
          subst hn
          rfl
        | cons r0 t =>
          have e : Vd.holesF t = HB.m H := by
            unfold Vd.holesF HB.m
            have := HF2.out
            simp only [List.drop_succ_cons, List.drop_zero] at this
            have h2 := congrArg (List.map fun r : Ring => [r]) this
            simp only [List.map_map] at h2
            exact h2.symm
          show [Vd.ringForm r0 true] ++ _ = Vd.ringForm r0 true :: (Vd.inOrder (Vd.holesF t)).flatten
          rw [e, ordH_rings, flat_one1]; rfl
      have HIO := hide (inOrder_any _ (HB.m H) (H.map HB.v) wr HH.out.rd.1 HH.out.rd.2 (by rw [List.length_map, HB.m_len]) (by rw [HB.m_len]; exact hHl) (fun p hp => by unfold HB.m at hp; obtain ⟨h, _, rfl⟩ := List.mem_map.1 hp; simp) (fun p hp r hr => by unfold HB.m at hp; obtain ⟨h, hh, rfl⟩ := List.mem_map.1 hp; rw [List.mem_singleton.1 hr]; exact HRl.out h hh))
      rw [ordH_vals, HB.m_len] at HIO
      clear hkl HE1 HE2
      obtain ⟨xa, xc, rfl⟩ := own_len HH.out.own
      obtain ⟨ua, uc, rfl⟩ := own_len HQ.out.own
      go_wp2_with fail
      refine HIO.out.mono ?_
      rintro e w2 ⟨G, rfl, hG, hRow, hu2⟩
      have HU2 := hide (HU.out.trans hu2)
      have HQ2 := hide (HQ.out.up hu2)
      have HK2 : Hid (∀ h ∈ ordH H, h.ok w.heap.size w2 ∧ (Value.slice ua Q.length uc).ownBlock ≠ some h.p) := fun h hh => ⟨(HH.out.ok h (ordH_mem hh)).up hu2, HH.out.ne h (ordH_mem hh)⟩
      have hOl : (ordH H).length = H.length := ordH_len H
      have HRow := hide hRow
      have HGn : Hid ((Value.slice ua Q.length uc).ownBlock ≠ some G) := fun e => by have := (own_lt HQ.out.own e).2; omega
      generalize ordH H = O at *
      clear hG hRow hu2 HIO HH HF1 HF2 HQ HU HRl
      go_wp2
      go_loopw [3, 33] (fun fv i wq => ∃ (t : Nat) (u : Value) (Q' : List RG), i = .int .i64 t ∧ u = fv ∧ t ≤ H.length ∧ Hid (Up w wq) ∧ Hid (QF w.heap.size wq u Q') ∧ Hid (VRow wq G 33 (O.map HB.v)) ∧ Hid (u.ownBlock ≠ some G) ∧ Hid (∀ h ∈ O, h.ok w.heap.size wq ∧ u.ownBlock ≠ some h.p) ∧ Hid (Q'.map RG.r = Q.map RG.r ++ ((O.take t).map fun h => h.q.r))) (fun _ i _ => H.length - (intOf i).toNat)
      case atStart => exact ⟨0, _, Q, rfl, rfl, Nat.zero_le _, HU2, HQ2, HRow, HGn, HK2, by simp [Hid]⟩
      case round =>
        clear HU2 HQ2 HRow HGn HK2
        obtain ⟨t, u, Q', rfl, rfl, ht, HU, HQ, HRow, HGn, HK, HE⟩ := hrel
        by_cases hlt2 : t < H.length
        · obtain ⟨h, hh⟩ := Pl.some_of_lt (show t < O.length by omega)
          have e0 := HRow.out.cell (i := t) (v := h.v) (by rw [List.getElem?_map, hh]; rfl)
          have Hk := hide (HK.out h (Pl.mem_of_some hh))
          have HEn : Hid ((Q' ++ [h.q]).map RG.r = Q.map RG.r ++ ((O.take (t + 1)).map fun h => h.q.r)) := by rw [Pl.take_one hh, List.map_append, HE.out, List.map_append, List.append_assoc]; exact rfl
          have hQl2 : Hid (Q'.length ≤ 1073741824) := by
            have := congrArg List.length HE.out
            simp only [List.length_map, List.length_append, List.length_take] at this
            show _ ≤ _; omega
          have hBs : Hid (w.heap.size ≤ wr.heap.size) := HU.out.size
          have hHeap : Hid (wr.heap[h.p]? = some (.cells [h.q.v].toArray 30 (0, 0))) := Hk.out.1.2.1
          have j1 : (0 : Int) ≤ (t : Int) := by omega
          have j2 : (t : Int) < (H.length : Int) := by omega
          rw [HB.v] at e0
          obtain ⟨ua', uc', rfl⟩ := own_len HQ.out.own
          clear hh
          go_wp2_with (at_builtin; refine wpList_app el_rings rfl (.tmp 37) (.tmp 38) rfl w.heap.size _ _ _ (by rfl) HQ.out.own h.p [h.q.v] (by rfl) rfl hHeap.out (by intro z hz; simp at hz; subst hz; rfl) hQl2.out hBs.out ?_; intro g5 cap5 w5 hown5 hg5 hat5 hlt5; have HQ5 := hide (HQ.out.push Hk.out.1.2.2 hg5 hown5); have HU5 : Hid (Up w w5) := Fr.up (S := fun _ => False) ((Fr.of_up HU.out).grown hg5 fun z hz => .inr (own_lt HQ.out.own hz).1) (fun _ _ h => h); have HR5 := hide (HRow.out.grown hg5 HGn.out); have HG5 : Hid ((Value.slice (some ⟨g5, 0, none⟩) (Q'.length + 1) cap5).ownBlock ≠ some G) := (fun e => by have hlt := HRow.out.lt; have e' : g5 = G := Option.some.inj e; rcases hat5 with e2 | e2; exact HGn.out (e' ▸ e2); omega); have HK5 : Hid (∀ h ∈ O, h.ok w.heap.size w5 ∧ (Value.slice (some ⟨g5, 0, none⟩) (Q'.length + 1) cap5).ownBlock ≠ some h.p) := (fun x hx => ⟨(HK.out x hx).1.byF HQ.out (HK.out x hx).2 hg5, fun e => by have hlt : x.p < wr.heap.size := (HK.out x hx).1.2.1.lt; have e' : g5 = x.p := Option.some.inj e; rcases hat5 with e2 | e2; exact (HK.out x hx).2 (e' ▸ e2); omega⟩); clear hown5 hg5 hat5 hlt5)
          go_roundw
          case rel => exact ⟨t + 1, _, _, by go_num, rfl, by omega, HU5, HQ5, HR5, HG5, HK5, HEn⟩
          case measure => simp [intOf]; omega
        · have j2 : ¬ (t : Int) < (H.length : Int) := by omega
          have HR := hide (HPF.out Q' (by rw [HE.out, List.take_of_length_le (by omega)]))
          go_wp2
          go_ret
          exact ⟨_, rfl, Q', HQ.out, HR.out, HU.out⟩
end Go.Proofs.YtcclepohmhdpbaaGreatDoor

/- THE DOCUMENT's WALKS: Canon: what lies on the heap, and the putting in place, plainly. -/
namespace Go.Proofs.YtcclepohmhdpbaaGreatDoor
set_option linter.all false
open Go.RowKit Go.Deep

/-! ### putting in place: the first stays -/
def insH {α : Type} (c : α → α → Int) (l : List α) (x : α) : List α := match l with
  | [] => [x]
  | s :: H => s :: Vd.insB c H x
theorem insH_one {α : Type} (c : α → α → Int) {A : List α} (x : α) (h : A.length ≤ 1) : insH c A x = A ++ [x] := by
  match A, h with
  | [], _ => rfl
  | [s], _ => rfl
theorem insH_snoc {α : Type} (c : α → α → Int) {A : List α} (x y : α) (h : 1 ≤ A.length) : insH c (A ++ [y]) x = if c x y < 0 then insH c A x ++ [y] else A ++ [y] ++ [x] := by
  match A, h with
  | s :: H, _ =>
    show s :: Vd.insB c (H ++ [y]) x = _
    rw [Vd.insB_snoc]
    split <;> rfl
theorem insB_map {α β : Type} (f : α → β) (c : β → β → Int) (x : α) : ∀ l : List α, (Vd.insB (fun a b => c (f a) (f b)) l x).map f = Vd.insB c (l.map f) (f x) := by
  intro l
  induction l using Vd.snoc_ind with
  | h0 => rfl
  | h1 l y ih =>
    rw [Vd.insB_snoc, List.map_append, show [y].map f = [f y] from rfl, Vd.insB_snoc]
    split
    · rw [List.map_append, ih]; rfl
    · rw [List.map_append, List.map_append]; rfl
theorem insH_map {α β : Type} (f : α → β) (c : β → β → Int) (x : α) (l : List α) : (insH (fun a b => c (f a) (f b)) l x).map f = insH c (l.map f) (f x) := by
  cases l with
  | nil => rfl
  | cons s H => show f s :: _ = _; rw [insB_map]; rfl
theorem polyD_snoc (l : Poly) (r : Ring) : Vd.polyD (l ++ [r]) = insH Vd.cmpR (Vd.polyD l) (Vd.ringD r (decide (l.length = 0))) := by
  cases l with
  | nil => rfl
  | cons s t =>
    show Vd.polyD (s :: (t ++ [r])) = _
    rw [Vd.polyD, Vd.polyD, List.map_append]
    show _ :: Vd.sortD Vd.cmpR (_ ++ [Vd.ringD r false]) = _
    rw [Vd.sortD_snoc]; rfl
theorem insH_len {α : Type} (c : α → α → Int) (l : List α) (x : α) : (insH c l x).length = l.length + 1 := by
  cases l with
  | nil => rfl
  | cons s H => show (_ :: _).length = _; rw [List.length_cons, (Vd.insB_perm c x H).length_eq, List.length_append]; rfl
theorem insH_mem {α : Type} (c : α → α → Int) (l : List α) (x y : α) (h : y ∈ insH c l x) : y ∈ l ∨ y = x := by
  cases l with
  | nil => exact .inr (List.mem_singleton.1 h)
  | cons s H =>
    rcases List.mem_cons.1 h with h | h
    · exact .inl (by rw [h]; simp)
    · rcases List.mem_append.1 ((Vd.insB_perm c x H).mem_iff.1 h) with h | h
      · exact .inl (by simp [h])
      · exact .inr (List.mem_singleton.1 h)
theorem insB_len {α : Type} (c : α → α → Int) (l : List α) (x : α) : (Vd.insB c l x).length = l.length + 1 := by rw [(Vd.insB_perm c x l).length_eq, List.length_append]; rfl
theorem insB_mem {α : Type} (c : α → α → Int) (l : List α) (x y : α) (h : y ∈ Vd.insB c l x) : y ∈ l ∨ y = x := by
  rcases List.mem_append.1 ((Vd.insB_perm c x l).mem_iff.1 h) with h | h
  · exact .inl h
  · exact .inr (List.mem_singleton.1 h)
theorem cornersU_len (r : Ring) : (Vd.cornersU r).length ≤ r.length - 1 := by rw [cuK_all]; exact cuK_len _ _
theorem cornersD_len (r : Ring) (b : Bool) : (Vd.cornersD r b).length = (Vd.cornersU r).length := by
  unfold Vd.cornersD; split
  · rfl
  · rw [List.length_reverse]
theorem leastI_le (l : Ring) : Vd.leastI l ≤ l.length := by
  have h : Vd.leastI l = Vd.leastN l l.length := rfl
  have h2 : ∀ n, Vd.leastN l n ≤ n := fun n => by have := Vd.leastN_b l n; omega
  rw [h]; exact h2 _
theorem roundD_len (l : Ring) : (Vd.roundD l).length = l.length + 1 := by
  have h := leastI_le l
  show (l.drop (Vd.leastI l) ++ l.take (Vd.leastI l) ++ [Vd.ptAt l (Vd.leastI l)]).length = _
  simp only [List.length_append, List.length_drop, List.length_take, List.length_cons, List.length_nil]; omega
theorem ringD_len (r : Ring) (b : Bool) : (Vd.ringD r b).length = (Vd.cornersU r).length + 1 := by unfold Vd.ringD; rw [roundD_len, cornersD_len]

/-! ### what lies on the heap -/
structure DcV where
  a : Option Addr
  c : Nat
  r : Ring
def DcV.v (x : DcV) : Value := .slice x.a x.r.length x.c
def DcV.ok (base : Nat) (w : World) (x : DcV) : Prop := w.ownsRow base 32 2 x.v x.r.length (flat x.r)
structure DcQ (base : Nat) (w : World) (v : Value) (l : List DcV) : Prop where
  own : w.ownsRow base 30 1 v l.length (l.map DcV.v)
  ok : ∀ x ∈ l, x.ok base w
structure DcP where
  a : Option Addr
  c : Nat
  l : List DcV
def DcP.v (x : DcP) : Value := .slice x.a x.l.length x.c
def DcP.m (x : DcP) : Poly := x.l.map DcV.r
structure DcO (base : Nat) (w : World) (v : Value) (L : List DcP) : Prop where
  own : w.ownsRow base 33 1 v L.length (L.map DcP.v)
  ok : ∀ x ∈ L, DcQ base w x.v x.l
theorem DcV.ok.up {base : Nat} {w w' : World} {x : DcV} (h : x.ok base w) (k : Up w w') : x.ok base w' := own_up h k
theorem DcQ.up {base : Nat} {w w' : World} {v : Value} {l : List DcV} (h : DcQ base w v l) (k : Up w w') : DcQ base w' v l := ⟨own_up h.own k, fun x hx => (h.ok x hx).up k⟩
theorem DcO.up {base : Nat} {w w' : World} {v : Value} {l : List DcP} (h : DcO base w v l) (k : Up w w') : DcO base w' v l := ⟨own_up h.own k, fun x hx => (h.ok x hx).up k⟩
theorem DcQ.base {base base' : Nat} {w : World} {v : Value} {l : List DcV} (h : DcQ base w v l) (k : base' ≤ base) : DcQ base' w v l := ⟨own_base h.own k, fun x hx => own_base (h.ok x hx) k⟩
theorem DcQ.nil (base : Nat) (w : World) : DcQ base w (.slice none 0 0) [] := ⟨World.ownsRow_nil _ _ _ _, by simp⟩
theorem DcO.nil (base : Nat) (w : World) : DcO base w (.slice none 0 0) [] := ⟨World.ownsRow_nil _ _ _ _, by simp⟩
theorem DcV.ok.rd {base : Nat} {w : World} {x : DcV} (h : x.ok base w) : Rd1 w x.v x.r := own_rd1 h
theorem DcV.ok.grown {base base' n n' : Nat} {w w' : World} {x : DcV} {v : Value} {xs : List Value} {e : TypeId} (h : x.ok base w) (ho : w.ownsRow base' e n v n' xs) (he : 32 ≠ e) (hg : w.grownBy w' v.ownBlock) : x.ok base w' := own_grown h ho he hg
theorem DcQ.push {base : Nat} {w w' : World} {v : Value} {l : List DcV} {x : DcV} {g cap : Nat} (h : DcQ base w v l) (hx : x.ok base w) (hg : w.grownBy w' v.ownBlock) (hown : w'.ownsRow base 30 1 (.slice (some ⟨g, 0, none⟩) (l.length + 1) cap) (l.length + 1) (l.map DcV.v ++ [x.v])) : DcQ base w' (.slice (some ⟨g, 0, none⟩) (l.length + 1) cap) (l ++ [x]) := by
  refine ⟨by rw [List.map_append, List.length_append]; exact hown, fun y hy => ?_⟩
  rcases List.mem_append.1 hy with hy | hy
  · exact (h.ok y hy).grown h.own (by decide) hg
  · rw [List.mem_singleton.1 hy]; exact hx.grown h.own (by decide) hg
theorem DcQ.grown {base base' n n' : Nat} {w w' : World} {v u : Value} {l : List DcV} {xs : List Value} {e : TypeId} (h : DcQ base w v l) (ho : w.ownsRow base' e n u n' xs) (h1 : 30 ≠ e) (h2 : 32 ≠ e) (hg : w.grownBy w' u.ownBlock) : DcQ base w' v l := ⟨own_grown h.own ho h1 hg, fun x hx => (h.ok x hx).grown ho h2 hg⟩
theorem DcO.push {base : Nat} {w w' : World} {v : Value} {l : List DcP} {x : DcP} {g cap : Nat} (h : DcO base w v l) (hx : DcQ base w x.v x.l) (hg : w.grownBy w' v.ownBlock) (hown : w'.ownsRow base 33 1 (.slice (some ⟨g, 0, none⟩) (l.length + 1) cap) (l.length + 1) (l.map DcP.v ++ [x.v])) : DcO base w' (.slice (some ⟨g, 0, none⟩) (l.length + 1) cap) (l ++ [x]) := by
  refine ⟨by rw [List.map_append, List.length_append]; exact hown, fun y hy => ?_⟩
  rcases List.mem_append.1 hy with hy | hy
  · exact (h.ok y hy).grown h.own (by decide) (by decide) hg
  · rw [List.mem_singleton.1 hy]; exact hx.grown h.own (by decide) (by decide) hg
theorem DcQ.cell {base : Nat} {w : World} {g n cap : Nat} {l : List DcV} (h : DcQ base w (.slice (some ⟨g, 0, none⟩) n cap) l) {i : Nat} {x : DcV} (hi : l[i]? = some x) : w.cell? ⟨g, i, none⟩ = some x.v := by
  obtain ⟨g', cap', e', hc⟩ := own_cell h.own (by have := Pl.lt_of_some hi; omega)
  cases e'
  exact hc i _ (by rw [List.getElem?_map, hi]; rfl)
theorem DcO.cell {base : Nat} {w : World} {g n cap : Nat} {l : List DcP} (h : DcO base w (.slice (some ⟨g, 0, none⟩) n cap) l) {i : Nat} {x : DcP} (hi : l[i]? = some x) : w.cell? ⟨g, i, none⟩ = some x.v := by
  obtain ⟨g', cap', e', hc⟩ := own_cell h.own (by have := Pl.lt_of_some hi; omega)
  cases e'
  exact hc i _ (by rw [List.getElem?_map, hi]; rfl)
theorem DcQ.rd {base : Nat} {w : World} {v : Value} {l : List DcV} (h : DcQ base w v l) : Rd2 w v (l.map DcV.r) := by
  obtain ⟨ao, cap, rfl⟩ := own_len h.own
  refine ⟨ao, cap, by rw [List.length_map], fun i r hi => ?_⟩
  rw [List.getElem?_map] at hi
  obtain ⟨x, hx, rfl⟩ := Option.map_eq_some_iff.1 hi
  obtain ⟨g', cap', e', hc⟩ := own_cell h.own (by have := Pl.lt_of_some hx; omega)
  cases e'
  exact ⟨g', x.v, rfl, hc i _ (by rw [List.getElem?_map, hx]; rfl), (h.ok x (Pl.mem_of_some hx)).rd⟩
theorem DcO.rd {base : Nat} {w : World} {v : Value} {l : List DcP} (h : DcO base w v l) : Rd3 w v (l.map DcP.m) := by
  obtain ⟨ao, cap, rfl⟩ := own_len h.own
  refine ⟨ao, cap, by rw [List.length_map], fun i r hi => ?_⟩
  rw [List.getElem?_map] at hi
  obtain ⟨x, hx, rfl⟩ := Option.map_eq_some_iff.1 hi
  obtain ⟨g', cap', e', hc⟩ := own_cell h.own (by have := Pl.lt_of_some hx; omega)
  cases e'
  exact ⟨g', x.v, rfl, hc i _ (by rw [List.getElem?_map, hx]; rfl), (h.ok x (Pl.mem_of_some hx)).rd⟩
/-- Two that stand beside each other change places. -/
theorem DcQ.swap {base : Nat} {w : World} {g n cap : Nat} {A B : List DcV} {x y : DcV} (h : DcQ base w (.slice (some ⟨g, 0, none⟩) n cap) (A ++ y :: x :: B)) : DcQ base ((w.setCell ⟨g, A.length + 1, none⟩ y.v).setCell ⟨g, A.length, none⟩ x.v) (.slice (some ⟨g, 0, none⟩) n cap) (A ++ x :: y :: B) := by
  have hn : n = (A ++ y :: x :: B).length := by
    rcases h.own.2 with ⟨h', _⟩ | ⟨g', cap', cur, h', _⟩
    · cases h'
    · cases h'; rfl
  subst hn
  have o1 := (h.own.stored (A.length + 1) y.v).1
  have o2 := (o1.stored A.length x.v).1
  refine ⟨?_, fun z hz => ?_⟩
  · have e : (((A ++ y :: x :: B).map DcV.v).set (A.length + 1) y.v).set A.length x.v = (A ++ x :: y :: B).map DcV.v := by
      rw [List.map_append, List.set_append_right _ _ (by simp), List.set_append_right _ _ (by simp), List.length_map, Nat.sub_self, show A.length + 1 - A.length = 1 by omega, List.map_append]; rfl
    rw [e] at o2
    have el : (A ++ x :: y :: B).length = (A ++ y :: x :: B).length := by simp
    rw [el]; exact o2
  · have hz2 : z ∈ A ++ y :: x :: B := by
      simp only [List.mem_append, List.mem_cons] at hz ⊢
      rcases hz with h | h | h | h
      · exact .inl h
      · exact .inr (.inr (.inl h))
      · exact .inr (.inl h)
      · exact .inr (.inr (.inr h))
    have k := h.ok z hz2
    have hne : z.v.ownBlock ≠ some g := fun e => own_ne k h.own (by decide) e rfl
    exact own_set (own_set k (a := ⟨g, A.length + 1, none⟩) hne _) (a := ⟨g, A.length, none⟩) hne _
theorem DcO.swap {base : Nat} {w : World} {g n cap : Nat} {A B : List DcP} {x y : DcP} (h : DcO base w (.slice (some ⟨g, 0, none⟩) n cap) (A ++ y :: x :: B)) : DcO base ((w.setCell ⟨g, A.length + 1, none⟩ y.v).setCell ⟨g, A.length, none⟩ x.v) (.slice (some ⟨g, 0, none⟩) n cap) (A ++ x :: y :: B) := by
  have hn : n = (A ++ y :: x :: B).length := by
    rcases h.own.2 with ⟨h', _⟩ | ⟨g', cap', cur, h', _⟩
    · cases h'
    · cases h'; rfl
  subst hn
  have o1 := (h.own.stored (A.length + 1) y.v).1
  have o2 := (o1.stored A.length x.v).1
  refine ⟨?_, fun z hz => ?_⟩
  · have e : (((A ++ y :: x :: B).map DcP.v).set (A.length + 1) y.v).set A.length x.v = (A ++ x :: y :: B).map DcP.v := by
      rw [List.map_append, List.set_append_right _ _ (by simp), List.set_append_right _ _ (by simp), List.length_map, Nat.sub_self, show A.length + 1 - A.length = 1 by omega, List.map_append]; rfl
    rw [e] at o2
    have el : (A ++ x :: y :: B).length = (A ++ y :: x :: B).length := by simp
    rw [el]; exact o2
  · have hz2 : z ∈ A ++ y :: x :: B := by
      simp only [List.mem_append, List.mem_cons] at hz ⊢
      rcases hz with h | h | h | h
      · exact .inl h
      · exact .inr (.inr (.inl h))
      · exact .inr (.inl h)
      · exact .inr (.inr (.inr h))
    have k := h.ok z hz2
    have hne : z.v.ownBlock ≠ some g := fun e => own_ne k.own h.own (by decide) e rfl
    refine ⟨own_set (own_set k.own (a := ⟨g, A.length + 1, none⟩) hne _) (a := ⟨g, A.length, none⟩) hne _, fun t ht => ?_⟩
    have k2 := k.ok t ht
    have hne2 : t.v.ownBlock ≠ some g := fun e => own_ne k2 h.own (by decide) e rfl
    exact own_set (own_set k2 (a := ⟨g, A.length + 1, none⟩) hne2 _) (a := ⟨g, A.length, none⟩) hne2 _
end Go.Proofs.YtcclepohmhdpbaaGreatDoor
