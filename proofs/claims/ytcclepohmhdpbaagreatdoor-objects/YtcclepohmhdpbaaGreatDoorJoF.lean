import Derived.Test.YtcclepohmhdpbaaGreatDoorTxL
import Derived.Test.YtcclepohmhdpbaaGreatDoorTyB
import Derived.Test.YtcclepohmhdpbaaGreatDoorLaw
import Derived.Test.YtcclepohmhdpbaaGreatDoorBnUnits
import Derived.Test.YtcclepohmhdpbaaGreatDoorJoLaw
/- JSON, WRITTEN: the marks; the program's Write. -/
namespace Go.Proofs.YtcclepohmhdpbaaGreatDoor
set_option linter.all false
open Go.RowKit Go.Deep

namespace Mk
def js : Mk := ⟨[91], [44], [93], [91], [44], [93]⟩
theorem js_ok : js.ok := ⟨by decide, by decide, by decide, by decide, by decide, by decide⟩
def headJ : List UInt8 := [123, 34, 116, 121, 112, 101, 34, 58, 34, 77, 117, 108, 116, 105, 80, 111, 108, 121, 103, 111, 110, 34, 44, 34, 99, 111, 111, 114, 100, 105, 110, 97, 116, 101, 115, 34, 58]
/-- A set as JSON. -/
def setJ (m : Mult) : List UInt8 := (headJ ++ js.set m) ++ [125]
end Mk

set_option maxRecDepth 100000 in
set_option maxHeartbeats 2000000 in
theorem jWrite_any (v : Value) (m : Mult) (w : World) (hv : Rd3 w v m) (hi : Bn.okM m) (ht : Tab w) :
    Calls Tryz.prog 105 #[v] w fun e w' => e = .returned (.string (bs (Mk.setJ m))) ∧ Up w w' := by
  have HV := hide hv
  have HI := hide hi
  have HT := hide ht
  obtain ⟨ao, cap, rfl, -⟩ := hv
  clear hi ht
  have HE := hide (show Mk.setJ m = (Mk.headJ ++ Mk.js.set m) ++ [125] from rfl)
  have L := Mk.set_le Mk.js_ok HI.out
  have HS := hide (fun (w' : World) (u : Up w w') => mset_any Mk.js Mk.js_ok _ m w' (HV.out.up u) HI.out (HT.out.up u))
  obtain ⟨X, hX⟩ : ∃ X, X = Mk.js.set m := ⟨_, rfl⟩
  rw [← hX] at HS HE L
  have L' : (X.length : Int) ≤ 3000000000000000 := by omega
  have z := bs_size X
  obtain ⟨Y, hY⟩ : ∃ Y, Y = Mk.headJ ++ X := ⟨_, rfl⟩
  have q : ByteArray.mk #[123, 34, 116, 121, 112, 101, 34, 58, 34, 77, 117, 108, 116, 105, 80, 111, 108, 121, 103, 111, 110, 34, 44, 34, 99, 111, 111, 114, 100, 105, 110, 97, 116, 101, 115, 34, 58] ++ bs X = bs Y := by rw [hY]; exact bs_append Mk.headJ X
  have lY : Y.length = X.length + 37 := by rw [hY]; simp [Mk.headJ]
  have zY := bs_size Y
  have q2 : bs Y ++ ByteArray.mk #[125] = bs (Y ++ [125]) := bs_append Y [125]
  rw [← hY] at HE
  clear hX L hY
  go_enter Tryz.func105, Tryz.ntmps105
  go_wp2_with fail
  refine (HS.out _ ((Up.refl w).alloc _)).mono ?_
  rintro e w1 ⟨rfl, u1⟩
  replace u1 := hide u1
  go_wp2
  go_ret
  rw [HE.out]
  exact ⟨rfl, ((Up.refl w).alloc _).trans u1.out⟩

set_option maxHeartbeats 1000000 in
theorem write2_any (v : Value) (m : Mult) (w : World) (hv : Rd3 w v m) (hi : Bn.okM m) (ht : Tab w) :
    Calls Tryz.prog 65 #[v, .int .i64 2, .int .i64 0] w fun e w' => e = .returned (.string (bs (Mk.setJ m))) ∧ Up w w' := by
  have HW := hide (jWrite_any v m w hv hi ht)
  obtain ⟨ao, cap, rfl, hm⟩ := hv
  clear hm hi ht
  go_enter Tryz.func65, Tryz.ntmps65
  go_wp2_with (go_at_call 105; refine HW.out.mono ?_; rintro e w1 ⟨rfl, u1⟩; replace u1 := hide u1)
  go_ret
  exact ⟨rfl, u1.out⟩
end Go.Proofs.YtcclepohmhdpbaaGreatDoor

/- THE DOCUMENT's JSON, WRITTEN. -/
namespace Go.Proofs.YtcclepohmhdpbaaGreatDoor
set_option linter.all false
open Go.RowKit Go.Deep

set_option maxRecDepth 100000 in
set_option maxHeartbeats 8000000 in
theorem dWritten_json (v : Value) (m : Mult) (w : World) (hv : Rd3 w v m) (hi : Bn.okM m) :
    Calls Tryz.prog 48 #[v, .bool true] w fun e w' => e = .returned (.string (bs (Mk.setJ m))) ∧ Up w w' := by
  obtain ⟨k, hk⟩ : ∃ k, k = Mk.js := ⟨_, rfl⟩
  have kok : k.ok := by rw [hk]; exact Mk.js_ok
  have ko : k.o = [91] := by rw [hk]; rfl
  have kc : k.c = [44] := by rw [hk]; rfl
  have ks : k.s = [93] := by rw [hk]; rfl
  have HPT : Hid (∀ p : Pnt, k.pt p = (91 :: ((Tx.txt p.1 ++ [44]) ++ Tx.txt p.2)) ++ [93]) := by rw [hk]; intro p; simp [Mk.pt, Mk.js]
  have HKO := hide ko
  have HKC := hide kc
  have HKS := hide ks
  have HOK := hide kok
  have HW : Hid (Mk.setJ m = (Mk.headJ ++ k.set m) ++ [125]) := by rw [hk]; exact rfl
  have HIM := hide hi
  obtain ⟨hl, hi⟩ := hi
  have HI := hide hi
  clear hi ko kc ks kok hk
  obtain ⟨ao, cap, rfl, hm⟩ := hv
  have HM := hide hm
  clear hm
  go_enter Tryz.func48, Tryz.ntmps48
  go_wp2_with fail
  go_loopw [9, 10] (fun s i wr => ∃ (n : Nat) (t : List UInt8), n ≤ m.length ∧ i = .int .i64 n ∧ s = .string (bs t) ∧ t.length ≤ n * 300000000100 ∧ Hid (k.listT k.poly 0 m = t ++ k.listT k.poly n (m.drop n)) ∧ Hid (Up w wr)) (fun _ i _ => m.length - (intOf i).toNat)
  case atStart => exact ⟨0, [], by omega, rfl, rfl, by simp, rfl, Up.refl w⟩
  case round =>
    obtain ⟨wo, hw⟩ : ∃ x, x = wr := ⟨_, rfl⟩
    subst hw
    obtain ⟨n, t, hn, rfl, rfl, htl, HR, HU⟩ := hrel
    by_cases hlt : n < m.length
    · obtain ⟨l, hp⟩ := Pl.some_of_lt hlt
      obtain ⟨b, u, rfl, hc0, hr0⟩ := HM.out n l hp
      have HC0 := hide hc0
      obtain ⟨ao2, cap2, rfl, hr1⟩ := hr0
      have HM1 := hide hr1
      have hok := HI.out l (Pl.mem_of_some hp)
      have hpb := Mk.poly_le HOK.out hok
      obtain ⟨I2, I1⟩ := hok
      have HI1 := hide I1
      have HS := hide (HR.out.trans (congrArg (t ++ ·) (Mk.listT_step k k.poly (i := n) hp)))
      have k0 := HU.out.cell hc0
      clear hc0 hr1 I1 HR hp
      go_wp2_with fail
      clear k0
      go_loopw [11, 12] (fun s i wr => ∃ (n2 : Nat) (t2 : List UInt8), n2 ≤ l.length ∧ i = .int .i64 n2 ∧ s = .string (bs t2) ∧ t2.length ≤ n2 * 40000100 ∧ Hid (k.listT k.ring 0 l = t2 ++ k.listT k.ring n2 (l.drop n2)) ∧ Hid (Up w wr)) (fun _ i _ => l.length - (intOf i).toNat)
      case atStart => exact ⟨0, [], by omega, rfl, rfl, by simp, rfl, HU⟩
      case round =>
        obtain ⟨wm, hw⟩ : ∃ x, x = wr := ⟨_, rfl⟩
        subst hw
        obtain ⟨n2, t2, hn2, rfl, rfl, htl2, HR2, HU5⟩ := hrel
        have k3 := HU5.out.cell HC0.out
        by_cases hlt2 : n2 < l.length
        · obtain ⟨r, hp2⟩ := Pl.some_of_lt hlt2
          obtain ⟨b2, u2, rfl, hc2, hr2⟩ := HM1.out n2 r hp2
          have HC2 := hide hc2
          obtain ⟨ao3, cap3, rfl, hr3⟩ := hr2
          have HM2 := hide hr3
          have hok2 := HI1.out r (Pl.mem_of_some hp2)
          have hrb := Mk.ring_le HOK.out hok2
          obtain ⟨J2, J1⟩ := hok2
          have HJ := hide J1
          have HS2 := hide (HR2.out.trans (congrArg (t2 ++ ·) (Mk.listT_step k k.ring (i := n2) hp2)))
          have k4 := HU5.out.cell hc2
          clear hc2 hr3 J1 HR2 hp2
          go_wp2_with fail
          clear k3 k4
          go_loopw [13, 14] (fun s i wr => ∃ (n3 : Nat) (t3 : List UInt8), n3 ≤ r.length ∧ i = .int .i64 n3 ∧ s = .string (bs t3) ∧ t3.length ≤ n3 * 6200 ∧ Hid (k.listT k.pt 0 r = t3 ++ k.listT k.pt n3 (r.drop n3)) ∧ Hid (Up w wr)) (fun _ i _ => r.length - (intOf i).toNat)
          case atStart => exact ⟨0, [], by omega, rfl, rfl, by simp, rfl, HU5⟩
          case round =>
            obtain ⟨wi, hw⟩ : ∃ x, x = wr := ⟨_, rfl⟩
            subst hw
            obtain ⟨n3, t3, hn3, rfl, rfl, htl3, HR3, HU7⟩ := hrel
            have k5 := HU7.out.cell HC0.out
            have k6 := HU7.out.cell HC2.out
            by_cases hlt3 : n3 < r.length
            · obtain ⟨p, hp3⟩ := Pl.some_of_lt hlt3
              obtain ⟨b3, rfl, hx, hy⟩ := HM2.out n3 p hp3
              obtain ⟨⟨x1, x2⟩, y1, y2⟩ := HJ.out p (Pl.mem_of_some hp3)
              have HCY := hide hy
              have HS4 := hide (HR3.out.trans (congrArg (t3 ++ ·) (Mk.listT_step k k.pt (i := n3) hp3)))
              rw [HPT.out] at HS4
              obtain ⟨px, py⟩ := p
              dsimp only at *
              have lX := Mk.txt_le x1 x2
              have lY := Mk.txt_le y1 y2
              obtain ⟨X, hX⟩ : ∃ X, X = Tx.txt px := ⟨_, rfl⟩
              obtain ⟨Y, hY⟩ : ∃ Y, Y = Tx.txt py := ⟨_, rfl⟩
              rw [← hX] at lX HS4
              rw [← hY] at lY HS4
              have HX := hide hX
              have HY := hide hY
              obtain ⟨X1, hX1⟩ : ∃ Z, Z = X ++ [44] := ⟨_, rfl⟩
              have q1 : bs X ++ ByteArray.mk #[44] = bs X1 := by rw [hX1]; exact bs_append X [44]
              have l1 : X1.length = X.length + 1 := by rw [hX1]; simp
              rw [← hX1] at HS4
              obtain ⟨V0, hV0⟩ : ∃ Z, Z = X1 ++ Y := ⟨_, rfl⟩
              have q2 : bs X1 ++ bs Y = bs V0 := by rw [hV0]; exact bs_append X1 Y
              have l2 : V0.length = X1.length + Y.length := by rw [hV0]; simp
              rw [← hV0] at HS4
              obtain ⟨V1, hV1⟩ : ∃ Z, Z = 91 :: V0 := ⟨_, rfl⟩
              have q5 : ByteArray.mk #[91] ++ bs V0 = bs V1 := by rw [hV1]; exact bs_append [91] V0
              have l5 : V1.length = V0.length + 1 := by rw [hV1]; simp
              rw [← hV1] at HS4
              obtain ⟨V, hV⟩ : ∃ Z, Z = V1 ++ [93] := ⟨_, rfl⟩
              have q6 : bs V1 ++ ByteArray.mk #[93] = bs V := by rw [hV]; exact bs_append V1 [93]
              have l6 : V.length = V1.length + 1 := by rw [hV]; simp
              rw [← hV] at HS4
              have z6 := bs_size V0
              have z7 := bs_size V1
              have z0 := bs_size t3
              have z1 := bs_size X
              have z2 := bs_size Y
              have z3 := bs_size X1
              have z4 := bs_size V
              have k7 := HU7.out.cell hx
              have k8 := HU7.out.cell hy
              clear hx hy HR3 hX hY hX1 hV hV0 hV1 hp3
              go_wp2_with fail
              refine (dtext_any px _ x1 x2).mono ?_
              rintro e w8 ⟨rfl, u8⟩
              rw [← HX.out]
              have HU8 : Hid (Up w w8) := HU7.out.trans u8
              clear u8 k5 k6 k7 k8
              have k5 := HU8.out.cell HC0.out
              have k6 := HU8.out.cell HC2.out
              have k8 := HU8.out.cell HCY.out
              go_wp2_with fail
              refine (dtext_any py _ y1 y2).mono ?_
              rintro e w9 ⟨rfl, u9⟩
              rw [← HY.out]
              have HU9 : Hid (Up w w9) := HU8.out.trans u9
              clear u9 k5 k6 k8
              by_cases hz : n3 = 0
              · subst hz
                have HF : Hid (k.listT k.pt 0 r = (t3 ++ V) ++ k.listT k.pt 1 (r.drop 1)) := by rw [HS4.out, gap_zero]; show _ = _; simp
                obtain ⟨T, hT⟩ : ∃ Z, Z = t3 ++ V := ⟨_, rfl⟩
                have q3 : bs t3 ++ bs V = bs T := by rw [hT]; exact bs_append t3 V
                have l3 : T.length = t3.length + V.length := by rw [hT]; simp
                rw [← hT] at HF
                clear HS4 hT
                go_wp2
                go_roundw
                case rel => exact ⟨1, T, by omega, by go_num, rfl, by omega, HF, HU9⟩
                case measure => simp [intOf]; omega
              · have hz2 : 0 < (n3 : Int) := by omega
                have HF : Hid (k.listT k.pt 0 r = (t3 ++ (44 :: V)) ++ k.listT k.pt (n3 + 1) (r.drop (n3 + 1))) := by rw [HS4.out, gap_pos k hz, HKC.out]; show _ = _; simp
                obtain ⟨G, hG⟩ : ∃ Z, Z = 44 :: V := ⟨_, rfl⟩
                rw [← hG] at HF
                have q4 : ByteArray.mk #[44] ++ bs V = bs G := by rw [hG]; exact bs_append [44] V
                have l4 : G.length = V.length + 1 := by rw [hG]; simp
                have z5 := bs_size G
                obtain ⟨T, hT⟩ : ∃ Z, Z = t3 ++ G := ⟨_, rfl⟩
                have q3 : bs t3 ++ bs G = bs T := by rw [hT]; exact bs_append t3 G
                have l3 : T.length = t3.length + G.length := by rw [hT]; simp
                rw [← hT] at HF
                clear HS4 hT hG
                go_wp2
                go_roundw
                case rel => exact ⟨n3 + 1, T, by omega, by go_num, rfl, by omega, HF, HU9⟩
                case measure => simp [intOf]; omega
            · have HE : Hid (k.listT k.pt 0 r = t3) := by rw [HR3.out, Mk.listT_end _ _ hlt3, List.append_nil]; exact rfl
              have HQ : Hid (k.ring r = (91 :: t3) ++ [93]) := by show _ = _; unfold Mk.ring Mk.list; rw [HE.out, HKO.out, HKS.out]; simp
              rw [HQ.out] at HS2 hrb
              have l0 : t3.length + 2 = ((91 :: t3) ++ [93]).length := by simp
              rw [← l0] at hrb
              obtain ⟨A1, hA1⟩ : ∃ Z, Z = 91 :: t3 := ⟨_, rfl⟩
              have q1 : ByteArray.mk #[91] ++ bs t3 = bs A1 := by rw [hA1]; exact bs_append [91] t3
              have l1 : A1.length = t3.length + 1 := by rw [hA1]; simp
              rw [← hA1] at HS2
              obtain ⟨V, hV⟩ : ∃ Z, Z = A1 ++ [93] := ⟨_, rfl⟩
              have q2 : bs A1 ++ ByteArray.mk #[93] = bs V := by rw [hV]; exact bs_append A1 [93]
              have l2 : V.length = A1.length + 1 := by rw [hV]; simp
              rw [← hV] at HS2
              have z0 := bs_size t2
              have z1 := bs_size t3
              have z3 := bs_size A1
              have z4 := bs_size V
              clear l0 hA1 hV HQ HE
              by_cases hz : n2 = 0
              · subst hz
                have HF : Hid (k.listT k.ring 0 l = (t2 ++ V) ++ k.listT k.ring 1 (l.drop 1)) := by rw [HS2.out, gap_zero]; show _ = _; simp
                obtain ⟨T, hT⟩ : ∃ Z, Z = t2 ++ V := ⟨_, rfl⟩
                have q3 : bs t2 ++ bs V = bs T := by rw [hT]; exact bs_append t2 V
                have l3 : T.length = t2.length + V.length := by rw [hT]; simp
                rw [← hT] at HF
                clear HS2 hT
                go_wp2
                go_roundw
                case rel => exact ⟨1, T, by omega, by go_num, rfl, by omega, HF, HU7⟩
                case measure => simp [intOf]; omega
              · have hz2 : 0 < (n2 : Int) := by omega
                have HF : Hid (k.listT k.ring 0 l = (t2 ++ (44 :: V)) ++ k.listT k.ring (n2 + 1) (l.drop (n2 + 1))) := by rw [HS2.out, gap_pos k hz, HKC.out]; show _ = _; simp
                obtain ⟨G, hG⟩ : ∃ Z, Z = 44 :: V := ⟨_, rfl⟩
                rw [← hG] at HF
                have q4 : ByteArray.mk #[44] ++ bs V = bs G := by rw [hG]; exact bs_append [44] V
                have l4 : G.length = V.length + 1 := by rw [hG]; simp
                have z5 := bs_size G
                obtain ⟨T, hT⟩ : ∃ Z, Z = t2 ++ G := ⟨_, rfl⟩
                have q3 : bs t2 ++ bs G = bs T := by rw [hT]; exact bs_append t2 G
                have l3 : T.length = t2.length + G.length := by rw [hT]; simp
                rw [← hT] at HF
                clear HS2 hT hG
                go_wp2
                go_roundw
                case rel => exact ⟨n2 + 1, T, by omega, by go_num, rfl, by omega, HF, HU7⟩
                case measure => simp [intOf]; omega
        · have HE : Hid (k.listT k.ring 0 l = t2) := by rw [HR2.out, Mk.listT_end _ _ hlt2, List.append_nil]; exact rfl
          have HQ : Hid (k.poly l = (91 :: t2) ++ [93]) := by show _ = _; unfold Mk.poly Mk.list; rw [HE.out, HKO.out, HKS.out]; simp
          rw [HQ.out] at HS hpb
          have l0 : t2.length + 2 = ((91 :: t2) ++ [93]).length := by simp
          rw [← l0] at hpb
          obtain ⟨A1, hA1⟩ : ∃ Z, Z = 91 :: t2 := ⟨_, rfl⟩
          have q1 : ByteArray.mk #[91] ++ bs t2 = bs A1 := by rw [hA1]; exact bs_append [91] t2
          have l1 : A1.length = t2.length + 1 := by rw [hA1]; simp
          rw [← hA1] at HS
          obtain ⟨V, hV⟩ : ∃ Z, Z = A1 ++ [93] := ⟨_, rfl⟩
          have q2 : bs A1 ++ ByteArray.mk #[93] = bs V := by rw [hV]; exact bs_append A1 [93]
          have l2 : V.length = A1.length + 1 := by rw [hV]; simp
          rw [← hV] at HS
          have z0 := bs_size t
          have z1 := bs_size t2
          have z3 := bs_size A1
          have z4 := bs_size V
          clear l0 hA1 hV HQ HE
          by_cases hz : n = 0
          · subst hz
            have HF : Hid (k.listT k.poly 0 m = (t ++ V) ++ k.listT k.poly 1 (m.drop 1)) := by rw [HS.out, gap_zero]; show _ = _; simp
            obtain ⟨T, hT⟩ : ∃ Z, Z = t ++ V := ⟨_, rfl⟩
            have q3 : bs t ++ bs V = bs T := by rw [hT]; exact bs_append t V
            have l3 : T.length = t.length + V.length := by rw [hT]; simp
            rw [← hT] at HF
            clear HS hT
            go_wp2
            go_roundw
            case rel => exact ⟨1, T, by omega, by go_num, rfl, by omega, HF, HU5⟩
            case measure => simp [intOf]; omega
          · have hz2 : 0 < (n : Int) := by omega
            have HF : Hid (k.listT k.poly 0 m = (t ++ (44 :: V)) ++ k.listT k.poly (n + 1) (m.drop (n + 1))) := by rw [HS.out, gap_pos k hz, HKC.out]; show _ = _; simp
            obtain ⟨G, hG⟩ : ∃ Z, Z = 44 :: V := ⟨_, rfl⟩
            rw [← hG] at HF
            have q4 : ByteArray.mk #[44] ++ bs V = bs G := by rw [hG]; exact bs_append [44] V
            have l4 : G.length = V.length + 1 := by rw [hG]; simp
            have z5 := bs_size G
            obtain ⟨T, hT⟩ : ∃ Z, Z = t ++ G := ⟨_, rfl⟩
            have q3 : bs t ++ bs G = bs T := by rw [hT]; exact bs_append t G
            have l3 : T.length = t.length + G.length := by rw [hT]; simp
            rw [← hT] at HF
            clear HS hT hG
            go_wp2
            go_roundw
            case rel => exact ⟨n + 1, T, by omega, by go_num, rfl, by omega, HF, HU5⟩
            case measure => simp [intOf]; omega
    · have HE : Hid (k.listT k.poly 0 m = t) := by rw [HR.out, Mk.listT_end _ _ hlt, List.append_nil]; exact rfl
      have z0 := bs_size t
      have e4 : (bs t).toList = t := bs_toList t
      have HT : Hid (Mk.setJ m = (Mk.headJ ++ (91 :: t)) ++ [93, 125]) := by
        rw [HW.out]
        show _ = _
        unfold Mk.set Mk.list
        rw [HE.out, HKO.out, HKS.out]
        simp
      obtain ⟨P, hP⟩ : ∃ Z, Z = Mk.headJ ++ (91 :: t) := ⟨_, rfl⟩
      have q1 : ByteArray.mk #[123, 34, 116, 121, 112, 101, 34, 58, 34, 77, 117, 108, 116, 105, 80, 111, 108, 121, 103, 111, 110, 34, 44, 34, 99, 111, 111, 114, 100, 105, 110, 97, 116, 101, 115, 34, 58, 91] ++ bs t = bs P := by rw [hP]; exact bs_append [123, 34, 116, 121, 112, 101, 34, 58, 34, 77, 117, 108, 116, 105, 80, 111, 108, 121, 103, 111, 110, 34, 44, 34, 99, 111, 111, 114, 100, 105, 110, 97, 116, 101, 115, 34, 58, 91] t
      have l1 : P.length = t.length + 38 := by rw [hP]; simp [Mk.headJ]
      have z1 := bs_size P
      have q2 : bs P ++ ByteArray.mk #[93, 125] = bs (P ++ [93, 125]) := bs_append P [93, 125]
      rw [← hP] at HT
      clear HR HE HW hP
      go_wp2
      go_ret
      rw [HT.out]
      exact ⟨rfl, HU.out⟩

end Go.Proofs.YtcclepohmhdpbaaGreatDoor

/- THE LAW: encoded, as JSON. -/
namespace Go.Proofs.YtcclepohmhdpbaaGreatDoor
set_option linter.all false
open Go.RowKit Go.Deep

set_option maxRecDepth 100000 in
set_option maxHeartbeats 4000000 in
theorem encoded2_any (M : Mult) (hM : Bn.okM M) (w : World) (b : Nat) (d : D3) (xa : Option Addr) (xn xc : Nat) (hs : Set3 w (.pointer (some ⟨b, 0, none⟩)) M b d) (hx : Rd3 w (.slice xa xn xc) M) (ht : Tab w) :
    Calls Tryz.prog 24 #[.agg #[.pointer (some ⟨b, 0, none⟩), .slice xa xn xc], .int .i64 2, .int .i64 0] w fun e w' => e = .returned (.bool true) ∧ Up w w' := by
  have HM := hide hM
  have uA := (Up.refl w).alloc (.cells #[.pointer (some ⟨b, 0, none⟩), .slice xa xn xc] 52)
  have hrow := VRow.new w [.pointer (some ⟨b, 0, none⟩), .slice xa xn xc] 52
  have HE := hide (enc_ok 2 0 _ M b d _ (by decide) (hs.up' uA) rfl (Mk.setJ M) (fun v hv => write2_any v M _ hv hM (ht.up uA)))
  have HX := hide (hx.up uA)
  have HR := hide hrow
  have HA := hide uA
  have HT := hide (bs_toList (Mk.setJ M))
  clear hs hx uA hrow hM ht
  obtain ⟨T, hT⟩ : ∃ T, T = Mk.setJ M := ⟨_, rfl⟩
  rw [← hT] at HE HT
  have HTT := hide hT
  clear hT
  go_enter Tryz.func24, Tryz.ntmps24
  go_wp2_with fail
  refine HE.out.mono ?_
  rintro e w1 ⟨rfl, u1⟩
  have c1 := VRow.cell (HR.out.of_block (u1.block _ HR.out.lt)) (i := 1) rfl
  have HX1 := hide (HX.out.up u1)
  replace u1 := hide u1
  go_wp2_with fail
  refine (dWritten_json _ M _ HX1.out HM.out).mono ?_
  rintro e w2 ⟨rfl, u2⟩
  rw [← HTT.out]
  replace u2 := hide u2
  go_wp2
  go_ret
  exact ⟨rfl, (HA.out.trans u1.out).trans u2.out⟩

set_option maxRecDepth 100000 in
set_option maxHeartbeats 4000000 in
theorem encoded21_any (M : Mult) (w : World) (b : Nat) (d : D3) (xa : Option Addr) (xn xc : Nat) (hs : Set3 w (.pointer (some ⟨b, 0, none⟩)) M b d) :
    Calls Tryz.prog 24 #[.agg #[.pointer (some ⟨b, 0, none⟩), .slice xa xn xc], .int .i64 2, .int .i64 1] w fun e w' => e = .returned (.bool true) ∧ Up w w' := by
  have uA := (Up.refl w).alloc (.cells #[.pointer (some ⟨b, 0, none⟩), .slice xa xn xc] 52)
  have HE := hide (enc_arg 2 1 _ M b d _ (by decide) (hs.up' uA) rfl)
  have HA := hide uA
  clear hs uA
  go_enter Tryz.func24, Tryz.ntmps24
  go_wp2_with fail
  refine HE.out.mono ?_
  rintro e w1 ⟨rfl, u1⟩
  replace u1 := hide u1
  go_wp2
  go_ret
  exact ⟨rfl, HA.out.trans u1.out⟩
end Go.Proofs.YtcclepohmhdpbaaGreatDoor

/- THE LAW: pointed. -/
namespace Go.Proofs.YtcclepohmhdpbaaGreatDoor
set_option linter.all false
open Go.RowKit Go.Deep

theorem told_got (M : Mult) (Wb : Nat) (w : World) (psv : Value) (b : Nat) (d : D3) (xa : Option Addr) (xn xc : Nat) (ps : List L2) (h : Got M Wb w psv b d ⟨.slice xa xn xc, ps⟩) :
    Calls Tryz.prog 50 #[.pointer (some ⟨Wb, 0, none⟩), .pointer (some ⟨b, 0, none⟩), .slice xa xn xc] w fun e w' => e = .returned (.bool true) ∧ w'.cell? ⟨Wb, 0, none⟩ = some psv ∧ Fr (· = Wb) w w' := by
  have hrf : RF3 (fun b => b ≠ Wb ∧ nv.ownBlock ≠ some b) w (.slice xa xn xc) M := h.eq ▸ h.lok.rf.keep (Fr.refl (fun _ => False) w) fun x _ hx => ⟨⟨fun e => h.lok.row_ne h.wr (by decide) (by decide) (by decide) (e ▸ hx), fun e => by cases e⟩, fun e => e⟩
  refine (told_gen (fun _ => False) w Wb psv nv nv 0 [] _ M b d xa xn xc h.wr (World.ownsRow_nil _ _ _ _) (by simp) (fun _ e => e.elim) h.set (fun x hx => ⟨h.ne x hx, fun e => by cases e⟩) hrf h.bd (many_of h.ok0) (by simp) (by omega) (by omega)).mono ?_
  rintro e w' ⟨he, ov, O, mk, hts⟩
  refine ⟨he, hts.wrow.c0, hts.fr.mono fun x _ e => ?_⟩
  rcases e with e | e
  · exact e
  · cases e

set_option maxRecDepth 100000 in
set_option maxHeartbeats 4000000 in
theorem pointed_any (M : Mult) (Wb : Nat) (w : World) (psv : Value) (b : Nat) (d : D3) (X : L3) (h : Got M Wb w psv b d X) :
    Calls Tryz.prog 25 #[.pointer (some ⟨Wb, 0, none⟩)] w fun e w' => e = .returned (.bool true) ∧ Fr (· = Wb) w w' := by
  obtain ⟨xv, ps⟩ := X
  obtain ⟨xa, xn, xc, rfl⟩ : ∃ a n c, xv = .slice a n c := own_shape h.lok.row
  obtain ⟨G, cap, rfl, hc⟩ := own_cell h.own (by omega)
  have g0 := hc 0 _ rfl
  have g1 := hc 1 _ rfl
  have c0 := h.wr.c0
  have HG := hide h
  clear h hc
  go_enter Tryz.func25, Tryz.ntmps25
  go_wp2
  have HC0 := hide c0
  have HG0 := hide g0
  have HG1 := hide g1
  clear c0 g0 g1
  go_loopw [3] (fun i wr => ∃ k : Nat, k ≤ 1 ∧ i = .int .i64 k ∧ Hid (wr.cell? ⟨Wb, 0, none⟩ = some (.slice (some ⟨G, 0, none⟩) 1 cap)) ∧ Hid (Fr (· = Wb) w wr) ∧ Hid (k = 0 → wr = w)) (fun i _ => 1 - (intOf i).toNat)
  case atStart => exact ⟨0, by omega, rfl, HC0, Fr.refl _ _, fun _ => rfl⟩
  case round =>
    obtain ⟨k, hk, rfl, H0, HF, HE⟩ := hrel
    rcases (show k = 0 ∨ k = 1 by omega) with rfl | rfl
    · have e := HE.out rfl
      subst e
      have c0 := HC0.out
      have g0 := HG0.out
      have g1 := HG1.out
      go_wp2_with fail
      go_region_with (go_at_call 50; refine (told_got M Wb _ _ b d xa xn xc ps (HG.out.up ((Up.refl _).drew))).mono ?_; rintro e w1 ⟨rfl, d0, df⟩; replace d0 := hide d0; replace df := hide df)
      all_goals
        go_wp2
        go_roundw
        case rel => exact ⟨1, by omega, by go_num, d0, ((Fr.refl (· = Wb) _).drew).trans df.out, fun e => by omega⟩
        case measure => simp [intOf]
    · have c0 := H0.out
      go_wp2
      go_ret
      exact ⟨rfl, HF.out⟩
end Go.Proofs.YtcclepohmhdpbaaGreatDoor

/- A SET THAT IS NOT WRONG IS IN ITS BOUNDS. -/
namespace Go.Proofs.YtcclepohmhdpbaaGreatDoor
set_option linter.all false
open Go.RowKit Go.Deep

namespace Bn
theorem okM_of {m : Mult} (h : Pl.wrong m = 0) : okM m := by
  unfold Pl.wrong at h
  split at h
  · cases h
  · rename_i h1
    split at h
    · cases h
    · split at h
      · cases h
      · rename_i h3
        have h1' : Pl.many m = false := by simpa using h1
        have h3' : m.any Pl.wideL = false := by simpa using h3
        obtain ⟨a, b⟩ := many_bd h1'
        have c : Pl.nP m ≤ 100 := by
          unfold Pl.many at h1'
          simp at h1'
          omega
        refine ⟨by omega, fun l hl => ⟨?_, fun r hr => ⟨?_, fun p hp => ?_⟩⟩⟩
        · have : l.length ≤ Pl.nR m := le_sum_of (List.mem_map_of_mem hl)
          omega
        · have e1 : r.length ≤ Pl.nPl l := le_sum_of (List.mem_map_of_mem hr)
          have e2 : Pl.nPl l ≤ Pl.nP m := le_sum_of (List.mem_map_of_mem hl)
          omega
        · have e1 : Pl.wideL l = false := by
            have := List.any_eq_false.1 h3' l hl
            simpa using this
          have e2 : Pl.wideR r = false := by
            have := List.any_eq_false.1 e1 r hr
            simpa using this
          have e3 : Pl.wideP p = false := by
            have := List.any_eq_false.1 e2 p hp
            simpa using this
          simp [Pl.wideP, Pl.farC] at e3
          omega
end Bn
end Go.Proofs.YtcclepohmhdpbaaGreatDoor

/- THE LAW: Objects. -/
namespace Go.Proofs.YtcclepohmhdpbaaGreatDoor
set_option linter.all false
open Go.RowKit Go.Deep

set_option maxRecDepth 100000 in
set_option maxHeartbeats 4000000 in
theorem lread2_any (l : List UInt8) (w : World) (ht : Tab w) :
    Calls Tryz.prog 15 #[.int .i64 2, .string (bs l)] w fun e w' => e = .returned (.bool true) ∧ Up w w' := by
  have HTB := hide ht
  clear ht
  have e0 := bs_size l
  by_cases hb : 1048576 < l.length
  · go_enter Tryz.func15, Tryz.ntmps15
    go_wp2
    go_ret
    exact ⟨rfl, Up.refl _⟩
  · have hnew : WR (w.alloc (.cells #[nv, nv, nv, .int .i64 0] 38)) w.heap.size nv nv nv 0 := VRow.new w [nv, nv, nv, .int .i64 0] _
    have HD := hide (decoded2_any l _ w.heap.size hnew (by omega))
    have HA := hide ((Up.refl w).alloc (.cells #[nv, nv, nv, .int .i64 0] 38))
    clear hnew
    go_enter Tryz.func15, Tryz.ntmps15
    go_wp2_with fail
    refine HD.out.mono ?_
    rintro e w1 ⟨rfl, hd⟩
    rcases hd with ⟨hW, u1⟩ | ⟨psv, b, d, ⟨xv, ps⟩, hg, hf⟩
    · have c0 := hW.c0
      have HU : Hid (Up w w1) := HA.out.trans u1
      clear hW u1
      go_wp2
      go_ret
      exact ⟨rfl, HU.out⟩
    · obtain ⟨xa, xn, xc, rfl⟩ : ∃ a n c, xv = .slice a n c := own_shape hg.lok.row
      obtain ⟨G, cap, rfl, hc⟩ := own_cell hg.own (by omega)
      have hok := hide (Bn.okM_of hg.ok0)
      have c0 := hg.wr.c0
      have g0 := hc 0 _ rfl
      have g1 := hc 1 _ rfl
      have HG := hide hg
      have HC := hide hc
      have HF : Hid (Fr (· = w.heap.size) w w1) := (Fr.of_up HA.out).trans hf
      have HUW : Hid (Up w w1) := HF.out.up fun x hx e => by omega
      clear hg hf hc
      go_wp2_with fail
      refine (encoded2_any _ hok.out _ b d xa xn xc HG.out.set (HG.out.eq ▸ HG.out.lok.rd) (HTB.out.up HUW.out)).mono ?_
      rintro e w2 ⟨rfl, u2⟩
      have HG2 := hide (HG.out.up u2)
      have d0 := u2.cell c0
      have k0 := u2.cell g0
      have k1 := u2.cell g1
      replace u2 := hide u2
      clear c0 g0 g1
      go_wp2_with fail
      refine (encoded21_any _ _ b d xa xn xc HG2.out.set).mono ?_
      rintro e w3 ⟨rfl, u3⟩
      have HG3 := hide (HG2.out.up u3)
      replace u3 := hide u3
      clear d0 k0 k1
      go_wp2_with fail
      refine (pointed_any _ _ _ _ b d _ HG3.out).mono ?_
      rintro e w4 ⟨rfl, f4⟩
      replace f4 := hide f4
      go_wp2
      go_ret
      refine ⟨rfl, (((HF.out.trans (Fr.of_up u2.out)).trans (Fr.of_up u3.out)).trans f4.out).up fun x hx e => by omega⟩

set_option maxHeartbeats 1000000 in
theorem objects_any (l : List UInt8) (w : World) (ht : Tab w) :
    Calls Tryz.prog 6 #[.string (bs l)] w fun e w' => e = .returned (.bool true) ∧ Up w w' := by
  have HT := hide ht
  clear ht
  go_enter Tryz.func6, Tryz.ntmps6
  go_wp2_with (go_at_call 15; refine (lread2_any l _ HT.out).mono ?_; rintro e w1 ⟨rfl, u1⟩; replace u1 := hide u1)
  go_ret
  exact ⟨rfl, u1.out⟩
end Go.Proofs.YtcclepohmhdpbaaGreatDoor
