/- THE DOCUMENT's BYTES, WRITTEN: sets. -/
import Derived.Test.YtcclepohmhdpbaaGreatDoorBnDoc6
namespace Go.Proofs.YtcclepohmhdpbaaGreatDoor
set_option linter.all false
open Go.RowKit Go.Deep

theorem put_f : Bn.put false 1 (if false = true then 1 else 0) = [0] := rfl
theorem put_t : Bn.put true 1 (if true = true then 1 else 0) = [1] := rfl

set_option maxRecDepth 100000 in
set_option maxHeartbeats 8000000 in
theorem dPacked_f (v : Value) (m : Mult) (w : World) (hv : Rd3 w v m) (hi : Bn.okM m) :
    Calls Tryz.prog 49 #[v, .bool false] w fun e w' => e = .returned (.string (bs (Bn.setT false m))) ∧ Up w w' := by
  obtain ⟨hl, hi⟩ := hi
  have HI := hide hi
  clear hi
  obtain ⟨ao, cap, rfl, hm⟩ := hv
  have HM := hide hm
  clear hm
  have lA := Bn.put_length false 4 6
  have lB := Bn.put_length false 4 m.length
  obtain ⟨PA, hA⟩ : ∃ P, P = Bn.put false 4 6 := ⟨_, rfl⟩
  obtain ⟨PB, hB⟩ : ∃ P, P = Bn.put false 4 m.length := ⟨_, rfl⟩
  rw [← hA] at lA
  rw [← hB] at lB
  have HT : Hid (Bn.setT false m = (0 :: (PA ++ PB)) ++ (m.drop 0).flatMap (Bn.polyT false)) := by
    rw [hA, hB]
    show _ = _
    unfold Bn.setT Bn.geom
    rw [put_f]
    simp
  have HA := hide hA
  have HB := hide hB
  have zA := bs_size PA
  have zB := bs_size PB
  have qA : ByteArray.mk #[0] ++ bs PA = bs (0 :: PA) := bs_append [0] PA
  have qB := bs_append (0 :: PA) PB
  have zC := bs_size (0 :: PA)
  simp only [List.cons_append, List.length_cons] at qB zC
  clear hA hB
  go_enter Tryz.func49, Tryz.ntmps49
  go_wp2_with fail
  refine (dspread_any 6 4 false _ (by omega) (by omega)).mono ?_
  rintro e w1 ⟨rfl, u1⟩
  rw [← HA.out]
  replace u1 := hide u1
  go_wp2_with fail
  refine (dspread_any m.length 4 false _ (by omega) (by omega)).mono ?_
  rintro e w2 ⟨rfl, u2⟩
  rw [← HB.out]
  have HU2 : Hid (Up w w2) := u1.out.trans u2
  clear u2 u1
  go_wp2_with fail
  go_loopw [8, 9] (fun s i wr => ∃ (n : Nat) (t : List UInt8), n ≤ m.length ∧ i = .int .i64 n ∧ s = .string (bs t) ∧ t.length ≤ 9 + n * 600000100 ∧ Hid (Bn.setT false m = t ++ (m.drop n).flatMap (Bn.polyT false)) ∧ Hid (Up w wr)) (fun _ i _ => m.length - (intOf i).toNat)
  case atStart => exact ⟨0, _, by omega, rfl, rfl, by simp; omega, HT, HU2⟩
  case round =>
    obtain ⟨wo, hw⟩ : ∃ x, x = wr := ⟨_, rfl⟩
    subst hw
    obtain ⟨n, t, hn, rfl, rfl, htl, HR, HU⟩ := hrel
    clear HT HA HB zA zB qA qB zC lA lB
    by_cases hlt : n < m.length
    · obtain ⟨l, hp⟩ := Pl.some_of_lt hlt
      obtain ⟨b, u, rfl, hc0, hr0⟩ := HM.out n l hp
      have HC0 := hide hc0
      obtain ⟨ao2, cap2, rfl, hr1⟩ := hr0
      have HM1 := hide hr1
      obtain ⟨I2, I1⟩ := HI.out l (Pl.mem_of_some hp)
      have HI1 := hide I1
      have HS := hide (Bn.fm_step (Bn.polyT false) hp)
      have hpb := Bn.polyT_le false ⟨I2, I1⟩
      have lA := Bn.put_length false 4 3
      have lB := Bn.put_length false 4 l.length
      obtain ⟨QA, hA⟩ : ∃ P, P = Bn.put false 4 3 := ⟨_, rfl⟩
      obtain ⟨QB, hB⟩ : ∃ P, P = Bn.put false 4 l.length := ⟨_, rfl⟩
      rw [← hA] at lA
      rw [← hB] at lB
      have HQ : Hid (Bn.polyT false l = (0 :: (QA ++ QB)) ++ (l.drop 0).flatMap (Bn.ringT false)) := by
        rw [hA, hB]
        show _ = _
        unfold Bn.polyT Bn.geom
        rw [put_f]
        simp
      have HA := hide hA
      have HB := hide hB
      have HS' : Hid (Bn.setT false m = (t ++ Bn.polyT false l) ++ (m.drop (n + 1)).flatMap (Bn.polyT false)) := by
        rw [HR.out, HS.out]
        simp [Hid]
      have z0 := bs_size t
      have zA := bs_size QA
      have zB := bs_size QB
      have q0 : bs t ++ ByteArray.mk #[0] = bs (t ++ [0]) := bs_append t [0]
      have z1 := bs_size (t ++ [0])
      have q1 := bs_append (t ++ [0]) QA
      have z2 := bs_size (t ++ [0] ++ QA)
      have q2 := bs_append (t ++ [0] ++ QA) QB
      simp only [List.append_assoc, List.length_append, List.cons_append, List.nil_append, List.length_cons, List.length_nil] at q0 q1 q2 z1 z2
      have k0 := HU.out.cell hc0
      clear hc0 hr1 I1 HS HR hA hB hp
      go_wp2_with fail
      refine (dspread_any 3 4 false _ (by omega) (by omega)).mono ?_
      rintro e w3 ⟨rfl, u3⟩
      rw [← HA.out]
      have HU3 : Hid (Up w w3) := HU.out.trans u3
      have k1 := HU3.out.cell HC0.out
      clear u3 k0
      go_wp2_with fail
      refine (dspread_any l.length 4 false _ (by omega) (by omega)).mono ?_
      rintro e w4 ⟨rfl, u4⟩
      rw [← HB.out]
      have HU4 : Hid (Up w w4) := HU3.out.trans u4
      have k2 := HU4.out.cell HC0.out
      clear u4 k1
      go_wp2_with fail
      clear k2
      go_loopw [8, 10] (fun s i wr => ∃ (n2 : Nat) (t2 : List UInt8), n2 ≤ l.length ∧ i = .int .i64 n2 ∧ s = .string (bs (t ++ t2)) ∧ t2.length ≤ 9 + n2 * 100000 ∧ Hid (Bn.polyT false l = t2 ++ (l.drop n2).flatMap (Bn.ringT false)) ∧ Hid (Up w wr)) (fun _ i _ => l.length - (intOf i).toNat)
      case atStart => exact ⟨0, 0 :: (QA ++ QB), by omega, rfl, by simp, by simp; omega, HQ, HU4⟩
      case round =>
        obtain ⟨wm, hw⟩ : ∃ x, x = wr := ⟨_, rfl⟩
        subst hw
        obtain ⟨n2, t2, hn2, rfl, rfl, htl2, HR2, HU5⟩ := hrel
        clear HQ HA HB zA zB q0 q1 q2 z1 z2 lA lB z0 HU3 HU4
        have k3 := HU5.out.cell HC0.out
        by_cases hlt2 : n2 < l.length
        · obtain ⟨r, hp2⟩ := Pl.some_of_lt hlt2
          obtain ⟨b2, u2, rfl, hc2, hr2⟩ := HM1.out n2 r hp2
          have HC2 := hide hc2
          obtain ⟨ao3, cap3, rfl, hr3⟩ := hr2
          have HM2 := hide hr3
          obtain ⟨J2, J1⟩ := HI1.out r (Pl.mem_of_some hp2)
          have HJ := hide J1
          have HS2 := hide (Bn.fm_step (Bn.ringT false) hp2)
          have hrb := Bn.ringT_le false J2
          have lA := Bn.put_length false 4 r.length
          obtain ⟨RA, hA⟩ : ∃ P, P = Bn.put false 4 r.length := ⟨_, rfl⟩
          rw [← hA] at lA
          have HQ2 : Hid (Bn.ringT false r = RA ++ (r.drop 0).flatMap (Bn.ptT false)) := by rw [hA]; exact rfl
          have HA := hide hA
          have HS3 : Hid (Bn.polyT false l = (t2 ++ Bn.ringT false r) ++ (l.drop (n2 + 1)).flatMap (Bn.ringT false)) := by
            rw [HR2.out, HS2.out]
            simp [Hid]
          have y0 := bs_size (t ++ t2)
          have y1 := bs_size RA
          have p1 := bs_append (t ++ t2) RA
          simp only [List.append_assoc, List.length_append] at p1 y0
          have k4 := HU5.out.cell hc2
          clear hc2 hr3 J1 HS2 HR2 hA hp2
          go_wp2_with fail
          refine (dspread_any r.length 4 false _ (by omega) (by omega)).mono ?_
          rintro e w6 ⟨rfl, u6⟩
          rw [← HA.out]
          have HU6 : Hid (Up w w6) := HU5.out.trans u6
          clear u6 k3 k4
          go_wp2_with fail
          go_loopw [8, 11] (fun s i wr => ∃ (n3 : Nat) (t3 : List UInt8), n3 ≤ r.length ∧ i = .int .i64 n3 ∧ s = .string (bs (t ++ (t2 ++ t3))) ∧ t3.length ≤ 4 + n3 * 16 ∧ Hid (Bn.ringT false r = t3 ++ (r.drop n3).flatMap (Bn.ptT false)) ∧ Hid (Up w wr)) (fun _ i _ => r.length - (intOf i).toNat)
          case atStart => exact ⟨0, RA, by omega, rfl, rfl, by omega, HQ2, HU6⟩
          case round =>
            obtain ⟨wi, hw⟩ : ∃ x, x = wr := ⟨_, rfl⟩
            subst hw
            obtain ⟨n3, t3, hn3, rfl, rfl, htl3, HR3, HU7⟩ := hrel
            clear HQ2 HA y0 y1 p1 lA HU6
            have k5 := HU7.out.cell HC0.out
            have k6 := HU7.out.cell HC2.out
            by_cases hlt3 : n3 < r.length
            · obtain ⟨p, hp3⟩ := Pl.some_of_lt hlt3
              obtain ⟨b3, rfl, hx, hy⟩ := HM2.out n3 p hp3
              obtain ⟨⟨x1, x2⟩, y1, y2⟩ := HJ.out p (Pl.mem_of_some hp3)
              have HCY := hide hy
              have HS4 := hide (Bn.fm_step (Bn.ptT false) hp3)
              obtain ⟨px, py⟩ := p
              dsimp only at *
              have lX := Bn.put_length false 8 (Bn.dbl px)
              have lY := Bn.put_length false 8 (Bn.dbl py)
              obtain ⟨X, hX⟩ : ∃ X, X = Bn.put false 8 (Bn.dbl px) := ⟨_, rfl⟩
              obtain ⟨Y, hY⟩ : ∃ Y, Y = Bn.put false 8 (Bn.dbl py) := ⟨_, rfl⟩
              rw [← hX] at lX
              rw [← hY] at lY
              have HS5 : Hid (Bn.ringT false r = (t3 ++ X ++ Y) ++ (r.drop (n3 + 1)).flatMap (Bn.ptT false)) := by
                rw [HR3.out, HS4.out, hX, hY]
                simp [Hid, Bn.ptT]
              have HX := hide hX
              have HY := hide hY
              have z0 := bs_size (t ++ (t2 ++ t3))
              have z1 := bs_size X
              have z2 := bs_size Y
              have z3 := bs_size (t ++ (t2 ++ t3) ++ X)
              have q1 := bs_append (t ++ (t2 ++ t3)) X
              have q2 := bs_append (t ++ (t2 ++ t3) ++ X) Y
              simp only [List.append_assoc, List.length_append] at q1 q2 z0 z3 HS5
              have k7 := HU7.out.cell hx
              have k8 := HU7.out.cell hy
              clear hx hy HS4 HR3 hX hY hp3
              go_wp2_with fail
              refine (dreal_any px false _ x1 x2).mono ?_
              rintro e w8 ⟨rfl, u8⟩
              rw [← HX.out]
              have HU8 : Hid (Up w w8) := HU7.out.trans u8
              clear u8 k5 k6 k7 k8
              have k5 := HU8.out.cell HC0.out
              have k6 := HU8.out.cell HC2.out
              have k8 := HU8.out.cell HCY.out
              go_wp2_with fail
              refine (dreal_any py false _ y1 y2).mono ?_
              rintro e w9 ⟨rfl, u9⟩
              rw [← HY.out]
              have HU9 : Hid (Up w w9) := HU8.out.trans u9
              clear u9 k5 k6 k8
              go_wp2
              go_roundw
              case rel => exact ⟨n3 + 1, t3 ++ X ++ Y, by omega, by go_num, by simp, by simp; omega, by simpa [Hid] using HS5.out, HU9⟩
              case measure => simp [intOf]; omega
            · have HE : Hid (Bn.ringT false r = t3) := by rw [HR3.out, Bn.fm_end _ hlt3, List.append_nil]; exact rfl
              clear HR3
              rw [HE.out] at HS3 hrb
              go_wp2
              go_roundw
              case rel => exact ⟨n2 + 1, t2 ++ t3, by omega, by go_num, rfl, by simp; omega, HS3, HU7⟩
              case measure => simp [intOf]; omega
        · have HE : Hid (Bn.polyT false l = t2) := by rw [HR2.out, Bn.fm_end _ hlt2, List.append_nil]; exact rfl
          clear HR2
          rw [HE.out] at HS' hpb
          go_wp2
          go_roundw
          case rel => exact ⟨n + 1, t ++ t2, by omega, by go_num, rfl, by simp; omega, HS', HU5⟩
          case measure => simp [intOf]; omega
    · have HS : Hid (Bn.setT false m = t) := by rw [HR.out, Bn.fm_end _ hlt, List.append_nil]; exact rfl
      clear HR
      go_wp2
      go_ret
      rw [HS.out]
      exact ⟨rfl, HU.out⟩

set_option maxRecDepth 100000 in
set_option maxHeartbeats 8000000 in
theorem dPacked_t (v : Value) (m : Mult) (w : World) (hv : Rd3 w v m) (hi : Bn.okM m) :
    Calls Tryz.prog 49 #[v, .bool true] w fun e w' => e = .returned (.string (bs (Bn.setT true m))) ∧ Up w w' := by
  obtain ⟨hl, hi⟩ := hi
  have HI := hide hi
  clear hi
  obtain ⟨ao, cap, rfl, hm⟩ := hv
  have HM := hide hm
  clear hm
  have lA := Bn.put_length true 4 6
  have lB := Bn.put_length true 4 m.length
  obtain ⟨PA, hA⟩ : ∃ P, P = Bn.put true 4 6 := ⟨_, rfl⟩
  obtain ⟨PB, hB⟩ : ∃ P, P = Bn.put true 4 m.length := ⟨_, rfl⟩
  rw [← hA] at lA
  rw [← hB] at lB
  have HT : Hid (Bn.setT true m = (1 :: (PA ++ PB)) ++ (m.drop 0).flatMap (Bn.polyT true)) := by
    rw [hA, hB]
    show _ = _
    unfold Bn.setT Bn.geom
    rw [put_t]
    simp
  have HA := hide hA
  have HB := hide hB
  have zA := bs_size PA
  have zB := bs_size PB
  have qA : ByteArray.mk #[1] ++ bs PA = bs (1 :: PA) := bs_append [1] PA
  have qB := bs_append (1 :: PA) PB
  have zC := bs_size (1 :: PA)
  simp only [List.cons_append, List.length_cons] at qB zC
  clear hA hB
  go_enter Tryz.func49, Tryz.ntmps49
  go_wp2_with fail
  refine (dspread_any 6 4 true _ (by omega) (by omega)).mono ?_
  rintro e w1 ⟨rfl, u1⟩
  rw [← HA.out]
  replace u1 := hide u1
  go_wp2_with fail
  refine (dspread_any m.length 4 true _ (by omega) (by omega)).mono ?_
  rintro e w2 ⟨rfl, u2⟩
  rw [← HB.out]
  have HU2 : Hid (Up w w2) := u1.out.trans u2
  clear u2 u1
  go_wp2_with fail
  go_loopw [8, 9] (fun s i wr => ∃ (n : Nat) (t : List UInt8), n ≤ m.length ∧ i = .int .i64 n ∧ s = .string (bs t) ∧ t.length ≤ 9 + n * 600000100 ∧ Hid (Bn.setT true m = t ++ (m.drop n).flatMap (Bn.polyT true)) ∧ Hid (Up w wr)) (fun _ i _ => m.length - (intOf i).toNat)
  case atStart => exact ⟨0, _, by omega, rfl, rfl, by simp; omega, HT, HU2⟩
  case round =>
    obtain ⟨wo, hw⟩ : ∃ x, x = wr := ⟨_, rfl⟩
    subst hw
    obtain ⟨n, t, hn, rfl, rfl, htl, HR, HU⟩ := hrel
    clear HT HA HB zA zB qA qB zC lA lB
    by_cases hlt : n < m.length
    · obtain ⟨l, hp⟩ := Pl.some_of_lt hlt
      obtain ⟨b, u, rfl, hc0, hr0⟩ := HM.out n l hp
      have HC0 := hide hc0
      obtain ⟨ao2, cap2, rfl, hr1⟩ := hr0
      have HM1 := hide hr1
      obtain ⟨I2, I1⟩ := HI.out l (Pl.mem_of_some hp)
      have HI1 := hide I1
      have HS := hide (Bn.fm_step (Bn.polyT true) hp)
      have hpb := Bn.polyT_le true ⟨I2, I1⟩
      have lA := Bn.put_length true 4 3
      have lB := Bn.put_length true 4 l.length
      obtain ⟨QA, hA⟩ : ∃ P, P = Bn.put true 4 3 := ⟨_, rfl⟩
      obtain ⟨QB, hB⟩ : ∃ P, P = Bn.put true 4 l.length := ⟨_, rfl⟩
      rw [← hA] at lA
      rw [← hB] at lB
      have HQ : Hid (Bn.polyT true l = (1 :: (QA ++ QB)) ++ (l.drop 0).flatMap (Bn.ringT true)) := by
        rw [hA, hB]
        show _ = _
        unfold Bn.polyT Bn.geom
        rw [put_t]
        simp
      have HA := hide hA
      have HB := hide hB
      have HS' : Hid (Bn.setT true m = (t ++ Bn.polyT true l) ++ (m.drop (n + 1)).flatMap (Bn.polyT true)) := by
        rw [HR.out, HS.out]
        simp [Hid]
      have z0 := bs_size t
      have zA := bs_size QA
      have zB := bs_size QB
      have q0 : bs t ++ ByteArray.mk #[1] = bs (t ++ [1]) := bs_append t [1]
      have z1 := bs_size (t ++ [1])
      have q1 := bs_append (t ++ [1]) QA
      have z2 := bs_size (t ++ [1] ++ QA)
      have q2 := bs_append (t ++ [1] ++ QA) QB
      simp only [List.append_assoc, List.length_append, List.cons_append, List.nil_append, List.length_cons, List.length_nil] at q0 q1 q2 z1 z2
      have k0 := HU.out.cell hc0
      clear hc0 hr1 I1 HS HR hA hB hp
      go_wp2_with fail
      refine (dspread_any 3 4 true _ (by omega) (by omega)).mono ?_
      rintro e w3 ⟨rfl, u3⟩
      rw [← HA.out]
      have HU3 : Hid (Up w w3) := HU.out.trans u3
      have k1 := HU3.out.cell HC0.out
      clear u3 k0
      go_wp2_with fail
      refine (dspread_any l.length 4 true _ (by omega) (by omega)).mono ?_
      rintro e w4 ⟨rfl, u4⟩
      rw [← HB.out]
      have HU4 : Hid (Up w w4) := HU3.out.trans u4
      have k2 := HU4.out.cell HC0.out
      clear u4 k1
      go_wp2_with fail
      clear k2
      go_loopw [8, 10] (fun s i wr => ∃ (n2 : Nat) (t2 : List UInt8), n2 ≤ l.length ∧ i = .int .i64 n2 ∧ s = .string (bs (t ++ t2)) ∧ t2.length ≤ 9 + n2 * 100000 ∧ Hid (Bn.polyT true l = t2 ++ (l.drop n2).flatMap (Bn.ringT true)) ∧ Hid (Up w wr)) (fun _ i _ => l.length - (intOf i).toNat)
      case atStart => exact ⟨0, 1 :: (QA ++ QB), by omega, rfl, by simp, by simp; omega, HQ, HU4⟩
      case round =>
        obtain ⟨wm, hw⟩ : ∃ x, x = wr := ⟨_, rfl⟩
        subst hw
        obtain ⟨n2, t2, hn2, rfl, rfl, htl2, HR2, HU5⟩ := hrel
        clear HQ HA HB zA zB q0 q1 q2 z1 z2 lA lB z0 HU3 HU4
        have k3 := HU5.out.cell HC0.out
        by_cases hlt2 : n2 < l.length
        · obtain ⟨r, hp2⟩ := Pl.some_of_lt hlt2
          obtain ⟨b2, u2, rfl, hc2, hr2⟩ := HM1.out n2 r hp2
          have HC2 := hide hc2
          obtain ⟨ao3, cap3, rfl, hr3⟩ := hr2
          have HM2 := hide hr3
          obtain ⟨J2, J1⟩ := HI1.out r (Pl.mem_of_some hp2)
          have HJ := hide J1
          have HS2 := hide (Bn.fm_step (Bn.ringT true) hp2)
          have hrb := Bn.ringT_le true J2
          have lA := Bn.put_length true 4 r.length
          obtain ⟨RA, hA⟩ : ∃ P, P = Bn.put true 4 r.length := ⟨_, rfl⟩
          rw [← hA] at lA
          have HQ2 : Hid (Bn.ringT true r = RA ++ (r.drop 0).flatMap (Bn.ptT true)) := by rw [hA]; exact rfl
          have HA := hide hA
          have HS3 : Hid (Bn.polyT true l = (t2 ++ Bn.ringT true r) ++ (l.drop (n2 + 1)).flatMap (Bn.ringT true)) := by
            rw [HR2.out, HS2.out]
            simp [Hid]
          have y0 := bs_size (t ++ t2)
          have y1 := bs_size RA
          have p1 := bs_append (t ++ t2) RA
          simp only [List.append_assoc, List.length_append] at p1 y0
          have k4 := HU5.out.cell hc2
          clear hc2 hr3 J1 HS2 HR2 hA hp2
          go_wp2_with fail
          refine (dspread_any r.length 4 true _ (by omega) (by omega)).mono ?_
          rintro e w6 ⟨rfl, u6⟩
          rw [← HA.out]
          have HU6 : Hid (Up w w6) := HU5.out.trans u6
          clear u6 k3 k4
          go_wp2_with fail
          go_loopw [8, 11] (fun s i wr => ∃ (n3 : Nat) (t3 : List UInt8), n3 ≤ r.length ∧ i = .int .i64 n3 ∧ s = .string (bs (t ++ (t2 ++ t3))) ∧ t3.length ≤ 4 + n3 * 16 ∧ Hid (Bn.ringT true r = t3 ++ (r.drop n3).flatMap (Bn.ptT true)) ∧ Hid (Up w wr)) (fun _ i _ => r.length - (intOf i).toNat)
          case atStart => exact ⟨0, RA, by omega, rfl, rfl, by omega, HQ2, HU6⟩
          case round =>
            obtain ⟨wi, hw⟩ : ∃ x, x = wr := ⟨_, rfl⟩
            subst hw
            obtain ⟨n3, t3, hn3, rfl, rfl, htl3, HR3, HU7⟩ := hrel
            clear HQ2 HA y0 y1 p1 lA HU6
            have k5 := HU7.out.cell HC0.out
            have k6 := HU7.out.cell HC2.out
            by_cases hlt3 : n3 < r.length
            · obtain ⟨p, hp3⟩ := Pl.some_of_lt hlt3
              obtain ⟨b3, rfl, hx, hy⟩ := HM2.out n3 p hp3
              obtain ⟨⟨x1, x2⟩, y1, y2⟩ := HJ.out p (Pl.mem_of_some hp3)
              have HCY := hide hy
              have HS4 := hide (Bn.fm_step (Bn.ptT true) hp3)
              obtain ⟨px, py⟩ := p
              dsimp only at *
              have lX := Bn.put_length true 8 (Bn.dbl px)
              have lY := Bn.put_length true 8 (Bn.dbl py)
              obtain ⟨X, hX⟩ : ∃ X, X = Bn.put true 8 (Bn.dbl px) := ⟨_, rfl⟩
              obtain ⟨Y, hY⟩ : ∃ Y, Y = Bn.put true 8 (Bn.dbl py) := ⟨_, rfl⟩
              rw [← hX] at lX
              rw [← hY] at lY
              have HS5 : Hid (Bn.ringT true r = (t3 ++ X ++ Y) ++ (r.drop (n3 + 1)).flatMap (Bn.ptT true)) := by
                rw [HR3.out, HS4.out, hX, hY]
                simp [Hid, Bn.ptT]
              have HX := hide hX
              have HY := hide hY
              have z0 := bs_size (t ++ (t2 ++ t3))
              have z1 := bs_size X
              have z2 := bs_size Y
              have z3 := bs_size (t ++ (t2 ++ t3) ++ X)
              have q1 := bs_append (t ++ (t2 ++ t3)) X
              have q2 := bs_append (t ++ (t2 ++ t3) ++ X) Y
              simp only [List.append_assoc, List.length_append] at q1 q2 z0 z3 HS5
              have k7 := HU7.out.cell hx
              have k8 := HU7.out.cell hy
              clear hx hy HS4 HR3 hX hY hp3
              go_wp2_with fail
              refine (dreal_any px true _ x1 x2).mono ?_
              rintro e w8 ⟨rfl, u8⟩
              rw [← HX.out]
              have HU8 : Hid (Up w w8) := HU7.out.trans u8
              clear u8 k5 k6 k7 k8
              have k5 := HU8.out.cell HC0.out
              have k6 := HU8.out.cell HC2.out
              have k8 := HU8.out.cell HCY.out
              go_wp2_with fail
              refine (dreal_any py true _ y1 y2).mono ?_
              rintro e w9 ⟨rfl, u9⟩
              rw [← HY.out]
              have HU9 : Hid (Up w w9) := HU8.out.trans u9
              clear u9 k5 k6 k8
              go_wp2
              go_roundw
              case rel => exact ⟨n3 + 1, t3 ++ X ++ Y, by omega, by go_num, by simp, by simp; omega, by simpa [Hid] using HS5.out, HU9⟩
              case measure => simp [intOf]; omega
            · have HE : Hid (Bn.ringT true r = t3) := by rw [HR3.out, Bn.fm_end _ hlt3, List.append_nil]; exact rfl
              clear HR3
              rw [HE.out] at HS3 hrb
              go_wp2
              go_roundw
              case rel => exact ⟨n2 + 1, t2 ++ t3, by omega, by go_num, rfl, by simp; omega, HS3, HU7⟩
              case measure => simp [intOf]; omega
        · have HE : Hid (Bn.polyT true l = t2) := by rw [HR2.out, Bn.fm_end _ hlt2, List.append_nil]; exact rfl
          clear HR2
          rw [HE.out] at HS' hpb
          go_wp2
          go_roundw
          case rel => exact ⟨n + 1, t ++ t2, by omega, by go_num, rfl, by simp; omega, HS', HU5⟩
          case measure => simp [intOf]; omega
    · have HS : Hid (Bn.setT true m = t) := by rw [HR.out, Bn.fm_end _ hlt, List.append_nil]; exact rfl
      clear HR
      go_wp2
      go_ret
      rw [HS.out]
      exact ⟨rfl, HU.out⟩

theorem dPacked_any (v : Value) (m : Mult) (lit : Bool) (w : World) (hv : Rd3 w v m) (hi : Bn.okM m) :
    Calls Tryz.prog 49 #[v, .bool lit] w fun e w' => e = .returned (.string (bs (Bn.setT lit m))) ∧ Up w w' := by
  cases lit
  · exact dPacked_f v m w hv hi
  · exact dPacked_t v m w hv hi
end Go.Proofs.YtcclepohmhdpbaaGreatDoor
