/- THE PROGRAM's BYTES, WRITTEN: sets. -/
import Derived.Test.YtcclepohmhdpbaaGreatDoorBnText
namespace Go.Proofs.YtcclepohmhdpbaaGreatDoor
set_option linter.all false
open Go.RowKit Go.Deep

set_option maxRecDepth 100000 in
set_option maxHeartbeats 4000000 in
theorem bWrite_any (v : Value) (m : Mult) (o : Int) (lit : Bool) (w : World) (hlit : lit = (o == 1)) (ho : o = 0 ∨ o = 1) (hv : Rd3 w v m) (hi : Bn.okM m) :
    Calls Tryz.prog 104 #[v, .int .i64 o] w fun e w' => e = .returned (.string (bs (Bn.setT lit m))) ∧ Up w w' := by
  have HL := hide hlit
  have HO := hide ho
  obtain ⟨hl, hi⟩ := hi
  have HI := hide hi
  clear hi hlit ho
  obtain ⟨ao, cap, rfl, hm⟩ := hv
  have HM := hide hm
  clear hm
  go_enter Tryz.func104, Tryz.ntmps104
  go_wp2_with fail
  refine (whead_any 6 m.length o lit _ HL.out HO.out (by omega) (by omega)).mono ?_
  rintro e w1 ⟨rfl, u1⟩
  replace u1 := hide u1
  have hz := Bn.geom_length lit 6 m.length
  obtain ⟨P0, h0⟩ : ∃ P, P = Bn.geom lit 6 m.length := ⟨_, rfl⟩
  rw [← h0] at hz ⊢
  have HT : Hid (Bn.setT lit m = P0 ++ (m.drop 0).flatMap (Bn.polyT lit)) := by rw [h0]; exact rfl
  clear h0
  go_wp2_with fail
  go_loopw [5, 16] (fun s i wr => ∃ (n : Nat) (t : List UInt8), n ≤ m.length ∧ i = .int .i64 n ∧ s = .string (bs t) ∧ t.length ≤ 9 + n * 600000100 ∧ Hid (Bn.setT lit m = t ++ (m.drop n).flatMap (Bn.polyT lit)) ∧ Hid (Up w wr)) (fun _ i _ => m.length - (intOf i).toNat)
  case atStart => exact ⟨0, P0, by omega, rfl, rfl, by omega, HT, u1⟩
  case round =>
    obtain ⟨n, t, hn, rfl, rfl, htl, HR, HU⟩ := hrel
    by_cases hlt : n < m.length
    · obtain ⟨l, hp⟩ := Pl.some_of_lt hlt
      obtain ⟨b, u, rfl, hc0, hr0⟩ := HM.out n l hp
      have k0 := HU.out.cell hc0
      obtain ⟨ao2, cap2, rfl, hr1⟩ := hr0
      have HM1 := hide hr1
      obtain ⟨I2, I1⟩ := HI.out l (Pl.mem_of_some hp)
      have HI1 := hide I1
      have HS := hide (Bn.fm_step (Bn.polyT lit) hp)
      have hpb := Bn.polyT_le lit ⟨I2, I1⟩
      clear hc0 hr1 I1
      have lG := Bn.geom_length lit 3 l.length
      obtain ⟨G, hG⟩ : ∃ G, G = Bn.geom lit 3 l.length := ⟨_, rfl⟩
      rw [← hG] at lG
      have HG := hide hG
      have HS' : Hid (Bn.setT lit m = (t ++ Bn.polyT lit l) ++ (m.drop (n + 1)).flatMap (Bn.polyT lit)) := by
        rw [HR.out, HS.out]
        simp [Hid]
      have HQ : Hid (Bn.polyT lit l = G ++ (l.drop 0).flatMap (Bn.ringT lit)) := by rw [hG]; exact rfl
      clear HS HR hG hp
      have z0 := bs_size t
      have z1 := bs_size G
      have q1 := bs_append t G
      go_wp2_with fail
      refine (whead_any 3 l.length o lit _ HL.out HO.out (by omega) (by omega)).mono ?_
      rintro e w2 ⟨rfl, u2⟩
      rw [← HG.out]
      have HU2 : Hid (Up w w2) := HU.out.trans u2
      clear u2
      go_wp2_with fail
      clear k0
      go_loopw [5, 28] (fun s i wr2 => ∃ (n2 : Nat) (t2 : List UInt8), n2 ≤ l.length ∧ i = .int .i64 n2 ∧ s = .string (bs (t ++ t2)) ∧ t2.length ≤ 9 + n2 * 100000 ∧ Hid (Bn.polyT lit l = t2 ++ (l.drop n2).flatMap (Bn.ringT lit)) ∧ Hid (Up w wr2)) (fun _ i _ => l.length - (intOf i).toNat)
      case atStart => exact ⟨0, G, by omega, rfl, rfl, by omega, HQ, HU2⟩
      case round =>
        obtain ⟨n2, t2, hn2, rfl, rfl, htl2, HR2, HU3⟩ := hrel
        by_cases hlt2 : n2 < l.length
        · obtain ⟨r, hp2⟩ := Pl.some_of_lt hlt2
          obtain ⟨b2, u2, rfl, hc2, hr2⟩ := HM1.out n2 r hp2
          have k2 := HU3.out.cell hc2
          obtain ⟨ao3, cap3, rfl, hr3⟩ := id hr2
          have HRr := hide (hr2.up HU3.out)
          obtain ⟨J2, J1⟩ := HI1.out r (Pl.mem_of_some hp2)
          have HJ := hide J1
          have HS2 := hide (Bn.fm_step (Bn.ringT lit) hp2)
          have hrb := Bn.ringT_le lit J2
          clear hc2 hr2 hr3 J1
          obtain ⟨X, hX⟩ : ∃ X, X = Bn.ringT lit r := ⟨_, rfl⟩
          rw [← hX] at hrb
          have HS3 : Hid (Bn.polyT lit l = (t2 ++ X) ++ (l.drop (n2 + 1)).flatMap (Bn.ringT lit)) := by
            rw [HR2.out, HS2.out, hX]
            simp [Hid]
          have HX := hide hX
          clear HS2 HR2 hX hp2
          have y0 := bs_size (t ++ t2)
          have y1 := bs_size X
          have p1 := bs_append (t ++ t2) X
          simp only [List.append_assoc, List.length_append] at p1 y0
          go_wp2_with fail
          refine (wring_any _ r o lit _ HL.out HRr.out HJ.out J2).mono ?_
          rintro e w4 ⟨rfl, u4⟩
          rw [← HX.out]
          have HU4 : Hid (Up w w4) := HU3.out.trans u4
          clear u4
          go_wp2
          go_roundw
          case rel => exact ⟨n2 + 1, t2 ++ X, by omega, by go_num, by simp, by simp; omega, HS3, HU4⟩
          case measure => simp [intOf]; omega
        · have HE : Hid (Bn.polyT lit l = t2) := by rw [HR2.out, Bn.fm_end _ hlt2, List.append_nil]; exact rfl
          clear HR2
          rw [HE.out] at HS' hpb
          go_wp2
          go_roundw
          case rel => exact ⟨n + 1, t ++ t2, by omega, by go_num, rfl, by simp; omega, HS', HU3⟩
          case measure => simp [intOf]; omega
    · have HS : Hid (Bn.setT lit m = t) := by rw [HR.out, Bn.fm_end _ hlt, List.append_nil]; exact rfl
      clear HR
      go_wp2
      go_ret
      rw [HS.out]
      exact ⟨rfl, HU.out⟩

set_option maxHeartbeats 1000000 in
theorem write1_any (v : Value) (m : Mult) (o : Int) (lit : Bool) (w : World) (hlit : lit = (o == 1)) (ho : o = 0 ∨ o = 1) (hv : Rd3 w v m) (hi : Bn.okM m) :
    Calls Tryz.prog 65 #[v, .int .i64 1, .int .i64 o] w fun e w' => e = .returned (.string (bs (Bn.setT lit m))) ∧ Up w w' := by
  have HW := hide (bWrite_any v m o lit w hlit ho hv hi)
  obtain ⟨ao, cap, rfl, hm⟩ := hv
  clear hlit ho hm hi
  go_enter Tryz.func65, Tryz.ntmps65
  go_wp2_with (go_at_call 104; refine HW.out.mono ?_; rintro e w1 ⟨rfl, u1⟩; replace u1 := hide u1)
  go_ret
  exact ⟨rfl, u1.out⟩
end Go.Proofs.YtcclepohmhdpbaaGreatDoor
