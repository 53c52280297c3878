/- THE DOCUMENT's TEXTS, WRITTEN. -/
import Derived.Test.YtcclepohmhdpbaaGreatDoorTyA
import Derived.Test.YtcclepohmhdpbaaGreatDoorTxL
import Derived.Test.YtcclepohmhdpbaaGreatDoorBnDoc6
namespace Go.Proofs.YtcclepohmhdpbaaGreatDoor
set_option linter.all false
open Go.RowKit Go.Deep

theorem dtext_any (x : Int) (w : World) (h1 : -32768 ≤ x) (h2 : x ≤ 32768) :
    Calls Tryz.prog 80 #[.int .i64 x] w fun e w' => e = .returned (.string (bs (Tx.txt x))) ∧ Up w w' := by
  have h := ddec_any x w h1 h2
  rw [Dc.txt_eq x h1 h2] at h
  exact h

/-- Four strings put together, a gap ahead of all but the first. -/
theorem gap_zero (k : Mk) : k.gap 0 = [] := rfl
theorem gap_pos (k : Mk) {n : Nat} (h : ¬ n = 0) : k.gap n = k.c := if_neg h

set_option maxRecDepth 100000 in
set_option maxHeartbeats 8000000 in
theorem dWritten_text (v : Value) (m : Mult) (w : World) (hv : Rd3 w v m) (hi : Bn.okM m) :
    Calls Tryz.prog 48 #[v, .bool false] w fun e w' => e = .returned (.string (bs (Mk.setW m))) ∧ Up w w' := by
  obtain ⟨k, hk⟩ : ∃ k, k = Mk.wkt := ⟨_, rfl⟩
  have kok : k.ok := by rw [hk]; exact Mk.wkt_ok
  have ko : k.o = [40] := by rw [hk]; rfl
  have kc : k.c = [44, 32] := by rw [hk]; rfl
  have ks : k.s = [41] := by rw [hk]; rfl
  have HPT : Hid (∀ p : Pnt, k.pt p = Tx.txt p.1 ++ [32] ++ Tx.txt p.2) := by rw [hk]; intro p; simp [Mk.pt, Mk.wkt]
  have HKO := hide ko
  have HKC := hide kc
  have HKS := hide ks
  have HOK := hide kok
  have HW : Hid (Mk.setW m = if m.length = 0 then Mk.none else Mk.word ++ k.set m) := by rw [hk]; exact rfl
  have HIM := hide hi
  obtain ⟨hl, hi⟩ := hi
  have HI := hide hi
  clear hi ko kc ks kok hk
  obtain ⟨ao, cap, rfl, hm⟩ := hv
  have HM := hide hm
  clear hm
  go_enter Tryz.func48, Tryz.ntmps48
  go_wp2_with fail
  go_loopw [9, 10] (fun s i wr => ∃ (n : Nat) (t : List UInt8), n ≤ m.length ∧ i = .int .i64 n ∧ s = .string (bs t) ∧ t.length ≤ n * 300000000100 ∧ Hid (k.listT k.poly 0 m = t ++ k.listT k.poly n (m.drop n)) ∧ Hid (Up w wr)) (fun _ i _ => m.length - (intOf i).toNat)
  case atStart => exact ⟨0, [], by omega, rfl, rfl, by simp, rfl, Up.refl w⟩
  case round =>
    obtain ⟨wo, hw⟩ : ∃ x, x = wr := ⟨_, rfl⟩
    subst hw
    obtain ⟨n, t, hn, rfl, rfl, htl, HR, HU⟩ := hrel
    by_cases hlt : n < m.length
    · obtain ⟨l, hp⟩ := Pl.some_of_lt hlt
      obtain ⟨b, u, rfl, hc0, hr0⟩ := HM.out n l hp
      have HC0 := hide hc0
      obtain ⟨ao2, cap2, rfl, hr1⟩ := hr0
      have HM1 := hide hr1
      have hok := HI.out l (Pl.mem_of_some hp)
      have hpb := Mk.poly_le HOK.out hok
      obtain ⟨I2, I1⟩ := hok
      have HI1 := hide I1
      have HS := hide (HR.out.trans (congrArg (t ++ ·) (Mk.listT_step k k.poly (i := n) hp)))
      have k0 := HU.out.cell hc0
      clear hc0 hr1 I1 HR hp
      go_wp2_with fail
      clear k0
      go_loopw [11, 12] (fun s i wr => ∃ (n2 : Nat) (t2 : List UInt8), n2 ≤ l.length ∧ i = .int .i64 n2 ∧ s = .string (bs t2) ∧ t2.length ≤ n2 * 40000100 ∧ Hid (k.listT k.ring 0 l = t2 ++ k.listT k.ring n2 (l.drop n2)) ∧ Hid (Up w wr)) (fun _ i _ => l.length - (intOf i).toNat)
      case atStart => exact ⟨0, [], by omega, rfl, rfl, by simp, rfl, HU⟩
      case round =>
        obtain ⟨wm, hw⟩ : ∃ x, x = wr := ⟨_, rfl⟩
        subst hw
        obtain ⟨n2, t2, hn2, rfl, rfl, htl2, HR2, HU5⟩ := hrel
        have k3 := HU5.out.cell HC0.out
        by_cases hlt2 : n2 < l.length
        · obtain ⟨r, hp2⟩ := Pl.some_of_lt hlt2
          obtain ⟨b2, u2, rfl, hc2, hr2⟩ := HM1.out n2 r hp2
          have HC2 := hide hc2
          obtain ⟨ao3, cap3, rfl, hr3⟩ := hr2
          have HM2 := hide hr3
          have hok2 := HI1.out r (Pl.mem_of_some hp2)
          have hrb := Mk.ring_le HOK.out hok2
          obtain ⟨J2, J1⟩ := hok2
          have HJ := hide J1
          have HS2 := hide (HR2.out.trans (congrArg (t2 ++ ·) (Mk.listT_step k k.ring (i := n2) hp2)))
          have k4 := HU5.out.cell hc2
          clear hc2 hr3 J1 HR2 hp2
          go_wp2_with fail
          clear k3 k4
          go_loopw [13, 14] (fun s i wr => ∃ (n3 : Nat) (t3 : List UInt8), n3 ≤ r.length ∧ i = .int .i64 n3 ∧ s = .string (bs t3) ∧ t3.length ≤ n3 * 6200 ∧ Hid (k.listT k.pt 0 r = t3 ++ k.listT k.pt n3 (r.drop n3)) ∧ Hid (Up w wr)) (fun _ i _ => r.length - (intOf i).toNat)
          case atStart => exact ⟨0, [], by omega, rfl, rfl, by simp, rfl, HU5⟩
          case round =>
            obtain ⟨wi, hw⟩ : ∃ x, x = wr := ⟨_, rfl⟩
            subst hw
            obtain ⟨n3, t3, hn3, rfl, rfl, htl3, HR3, HU7⟩ := hrel
            have k5 := HU7.out.cell HC0.out
            have k6 := HU7.out.cell HC2.out
            by_cases hlt3 : n3 < r.length
            · obtain ⟨p, hp3⟩ := Pl.some_of_lt hlt3
              obtain ⟨b3, rfl, hx, hy⟩ := HM2.out n3 p hp3
              obtain ⟨⟨x1, x2⟩, y1, y2⟩ := HJ.out p (Pl.mem_of_some hp3)
              have HCY := hide hy
              have HS4 := hide (HR3.out.trans (congrArg (t3 ++ ·) (Mk.listT_step k k.pt (i := n3) hp3)))
              rw [HPT.out] at HS4
              obtain ⟨px, py⟩ := p
              dsimp only at *
              have lX := Mk.txt_le x1 x2
              have lY := Mk.txt_le y1 y2
              obtain ⟨X, hX⟩ : ∃ X, X = Tx.txt px := ⟨_, rfl⟩
              obtain ⟨Y, hY⟩ : ∃ Y, Y = Tx.txt py := ⟨_, rfl⟩
              rw [← hX] at lX HS4
              rw [← hY] at lY HS4
              have HX := hide hX
              have HY := hide hY
              obtain ⟨X1, hX1⟩ : ∃ Z, Z = X ++ [32] := ⟨_, rfl⟩
              have q1 : bs X ++ ByteArray.mk #[32] = bs X1 := by rw [hX1]; exact bs_append X [32]
              have l1 : X1.length = X.length + 1 := by rw [hX1]; simp
              rw [← hX1] at HS4
              obtain ⟨V, hV⟩ : ∃ Z, Z = X1 ++ Y := ⟨_, rfl⟩
              have q2 : bs X1 ++ bs Y = bs V := by rw [hV]; exact bs_append X1 Y
              have l2 : V.length = X1.length + Y.length := by rw [hV]; simp
              rw [← hV] at HS4
              have z0 := bs_size t3
              have z1 := bs_size X
              have z2 := bs_size Y
              have z3 := bs_size X1
              have z4 := bs_size V
              have k7 := HU7.out.cell hx
              have k8 := HU7.out.cell hy
              clear hx hy HR3 hX hY hX1 hV hp3
              go_wp2_with fail
              refine (dtext_any px _ x1 x2).mono ?_
              rintro e w8 ⟨rfl, u8⟩
              rw [← HX.out]
              have HU8 : Hid (Up w w8) := HU7.out.trans u8
              clear u8 k5 k6 k7 k8
              have k5 := HU8.out.cell HC0.out
              have k6 := HU8.out.cell HC2.out
              have k8 := HU8.out.cell HCY.out
              go_wp2_with fail
              refine (dtext_any py _ y1 y2).mono ?_
              rintro e w9 ⟨rfl, u9⟩
              rw [← HY.out]
              have HU9 : Hid (Up w w9) := HU8.out.trans u9
              clear u9 k5 k6 k8
              by_cases hz : n3 = 0
              · subst hz
                have HF : Hid (k.listT k.pt 0 r = (t3 ++ V) ++ k.listT k.pt 1 (r.drop 1)) := by rw [HS4.out, gap_zero]; show _ = _; simp
                obtain ⟨T, hT⟩ : ∃ Z, Z = t3 ++ V := ⟨_, rfl⟩
                have q3 : bs t3 ++ bs V = bs T := by rw [hT]; exact bs_append t3 V
                have l3 : T.length = t3.length + V.length := by rw [hT]; simp
                rw [← hT] at HF
                clear HS4 hT
                go_wp2
                go_roundw
                case rel => exact ⟨1, T, by omega, by go_num, rfl, by omega, HF, HU9⟩
                case measure => simp [intOf]; omega
              · have hz2 : 0 < (n3 : Int) := by omega
                have HF : Hid (k.listT k.pt 0 r = (t3 ++ (44 :: 32 :: V)) ++ k.listT k.pt (n3 + 1) (r.drop (n3 + 1))) := by rw [HS4.out, gap_pos k hz, HKC.out]; show _ = _; simp
                obtain ⟨G, hG⟩ : ∃ Z, Z = 44 :: 32 :: V := ⟨_, rfl⟩
                rw [← hG] at HF
                have q4 : ByteArray.mk #[44, 32] ++ bs V = bs G := by rw [hG]; exact bs_append [44, 32] V
                have l4 : G.length = V.length + 2 := by rw [hG]; simp
                have z5 := bs_size G
                obtain ⟨T, hT⟩ : ∃ Z, Z = t3 ++ G := ⟨_, rfl⟩
                have q3 : bs t3 ++ bs G = bs T := by rw [hT]; exact bs_append t3 G
                have l3 : T.length = t3.length + G.length := by rw [hT]; simp
                rw [← hT] at HF
                clear HS4 hT hG
                go_wp2
                go_roundw
                case rel => exact ⟨n3 + 1, T, by omega, by go_num, rfl, by omega, HF, HU9⟩
                case measure => simp [intOf]; omega
            · have HE : Hid (k.listT k.pt 0 r = t3) := by rw [HR3.out, Mk.listT_end _ _ hlt3, List.append_nil]; exact rfl
              have HQ : Hid (k.ring r = (40 :: t3) ++ [41]) := by show _ = _; unfold Mk.ring Mk.list; rw [HE.out, HKO.out, HKS.out]; simp
              rw [HQ.out] at HS2 hrb
              have l0 : t3.length + 2 = ((40 :: t3) ++ [41]).length := by simp
              rw [← l0] at hrb
              obtain ⟨A1, hA1⟩ : ∃ Z, Z = 40 :: t3 := ⟨_, rfl⟩
              have q1 : ByteArray.mk #[40] ++ bs t3 = bs A1 := by rw [hA1]; exact bs_append [40] t3
              have l1 : A1.length = t3.length + 1 := by rw [hA1]; simp
              rw [← hA1] at HS2
              obtain ⟨V, hV⟩ : ∃ Z, Z = A1 ++ [41] := ⟨_, rfl⟩
              have q2 : bs A1 ++ ByteArray.mk #[41] = bs V := by rw [hV]; exact bs_append A1 [41]
              have l2 : V.length = A1.length + 1 := by rw [hV]; simp
              rw [← hV] at HS2
              have z0 := bs_size t2
              have z1 := bs_size t3
              have z3 := bs_size A1
              have z4 := bs_size V
              clear l0 hA1 hV HQ HE
              by_cases hz : n2 = 0
              · subst hz
                have HF : Hid (k.listT k.ring 0 l = (t2 ++ V) ++ k.listT k.ring 1 (l.drop 1)) := by rw [HS2.out, gap_zero]; show _ = _; simp
                obtain ⟨T, hT⟩ : ∃ Z, Z = t2 ++ V := ⟨_, rfl⟩
                have q3 : bs t2 ++ bs V = bs T := by rw [hT]; exact bs_append t2 V
                have l3 : T.length = t2.length + V.length := by rw [hT]; simp
                rw [← hT] at HF
                clear HS2 hT
                go_wp2
                go_roundw
                case rel => exact ⟨1, T, by omega, by go_num, rfl, by omega, HF, HU7⟩
                case measure => simp [intOf]; omega
              · have hz2 : 0 < (n2 : Int) := by omega
                have HF : Hid (k.listT k.ring 0 l = (t2 ++ (44 :: 32 :: V)) ++ k.listT k.ring (n2 + 1) (l.drop (n2 + 1))) := by rw [HS2.out, gap_pos k hz, HKC.out]; show _ = _; simp
                obtain ⟨G, hG⟩ : ∃ Z, Z = 44 :: 32 :: V := ⟨_, rfl⟩
                rw [← hG] at HF
                have q4 : ByteArray.mk #[44, 32] ++ bs V = bs G := by rw [hG]; exact bs_append [44, 32] V
                have l4 : G.length = V.length + 2 := by rw [hG]; simp
                have z5 := bs_size G
                obtain ⟨T, hT⟩ : ∃ Z, Z = t2 ++ G := ⟨_, rfl⟩
                have q3 : bs t2 ++ bs G = bs T := by rw [hT]; exact bs_append t2 G
                have l3 : T.length = t2.length + G.length := by rw [hT]; simp
                rw [← hT] at HF
                clear HS2 hT hG
                go_wp2
                go_roundw
                case rel => exact ⟨n2 + 1, T, by omega, by go_num, rfl, by omega, HF, HU7⟩
                case measure => simp [intOf]; omega
        · have HE : Hid (k.listT k.ring 0 l = t2) := by rw [HR2.out, Mk.listT_end _ _ hlt2, List.append_nil]; exact rfl
          have HQ : Hid (k.poly l = (40 :: t2) ++ [41]) := by show _ = _; unfold Mk.poly Mk.list; rw [HE.out, HKO.out, HKS.out]; simp
          rw [HQ.out] at HS hpb
          have l0 : t2.length + 2 = ((40 :: t2) ++ [41]).length := by simp
          rw [← l0] at hpb
          obtain ⟨A1, hA1⟩ : ∃ Z, Z = 40 :: t2 := ⟨_, rfl⟩
          have q1 : ByteArray.mk #[40] ++ bs t2 = bs A1 := by rw [hA1]; exact bs_append [40] t2
          have l1 : A1.length = t2.length + 1 := by rw [hA1]; simp
          rw [← hA1] at HS
          obtain ⟨V, hV⟩ : ∃ Z, Z = A1 ++ [41] := ⟨_, rfl⟩
          have q2 : bs A1 ++ ByteArray.mk #[41] = bs V := by rw [hV]; exact bs_append A1 [41]
          have l2 : V.length = A1.length + 1 := by rw [hV]; simp
          rw [← hV] at HS
          have z0 := bs_size t
          have z1 := bs_size t2
          have z3 := bs_size A1
          have z4 := bs_size V
          clear l0 hA1 hV HQ HE
          by_cases hz : n = 0
          · subst hz
            have HF : Hid (k.listT k.poly 0 m = (t ++ V) ++ k.listT k.poly 1 (m.drop 1)) := by rw [HS.out, gap_zero]; show _ = _; simp
            obtain ⟨T, hT⟩ : ∃ Z, Z = t ++ V := ⟨_, rfl⟩
            have q3 : bs t ++ bs V = bs T := by rw [hT]; exact bs_append t V
            have l3 : T.length = t.length + V.length := by rw [hT]; simp
            rw [← hT] at HF
            clear HS hT
            go_wp2
            go_roundw
            case rel => exact ⟨1, T, by omega, by go_num, rfl, by omega, HF, HU5⟩
            case measure => simp [intOf]; omega
          · have hz2 : 0 < (n : Int) := by omega
            have HF : Hid (k.listT k.poly 0 m = (t ++ (44 :: 32 :: V)) ++ k.listT k.poly (n + 1) (m.drop (n + 1))) := by rw [HS.out, gap_pos k hz, HKC.out]; show _ = _; simp
            obtain ⟨G, hG⟩ : ∃ Z, Z = 44 :: 32 :: V := ⟨_, rfl⟩
            rw [← hG] at HF
            have q4 : ByteArray.mk #[44, 32] ++ bs V = bs G := by rw [hG]; exact bs_append [44, 32] V
            have l4 : G.length = V.length + 2 := by rw [hG]; simp
            have z5 := bs_size G
            obtain ⟨T, hT⟩ : ∃ Z, Z = t ++ G := ⟨_, rfl⟩
            have q3 : bs t ++ bs G = bs T := by rw [hT]; exact bs_append t G
            have l3 : T.length = t.length + G.length := by rw [hT]; simp
            rw [← hT] at HF
            clear HS hT hG
            go_wp2
            go_roundw
            case rel => exact ⟨n + 1, T, by omega, by go_num, rfl, by omega, HF, HU5⟩
            case measure => simp [intOf]; omega
    · have HE : Hid (k.listT k.poly 0 m = t) := by rw [HR.out, Mk.listT_end _ _ hlt, List.append_nil]; exact rfl
      have z0 := bs_size t
      have e4 : (bs t).toList = t := bs_toList t
      by_cases hm0 : m.length = 0
      · have ht0 : t = [] := by
          rw [← HE.out, List.length_eq_zero_iff.1 hm0]; rfl
        subst ht0
        have hE : bs [] = ByteArray.mk #[] := rfl
        have HT : Hid (Mk.setW m = Mk.none) := by rw [HW.out, if_pos hm0]; exact rfl
        clear HR HE HW
        go_wp2
        go_ret
        rw [HT.out]
        exact ⟨rfl, HU.out⟩
      · have ht0 : ¬ t = [] := by
          rw [← HE.out]
          intro e
          cases m with
          | nil => simp at hm0
          | cons a m' =>
            have := congrArg List.length e
            simp [Mk.listT, Mk.poly, Mk.list, HKO.out] at this
        have ht1 : t.isEmpty = false := by simp [ht0]
        have HT : Hid (Mk.setW m = (Mk.word ++ (40 :: t)) ++ [41]) := by
          rw [HW.out, if_neg hm0]
          show _ = _
          unfold Mk.set Mk.list
          rw [HE.out, HKO.out, HKS.out]
          simp
        obtain ⟨P, hP⟩ : ∃ Z, Z = Mk.word ++ (40 :: t) := ⟨_, rfl⟩
        have q1 : ByteArray.mk #[77, 85, 76, 84, 73, 80, 79, 76, 89, 71, 79, 78, 32, 40] ++ bs t = bs P := by rw [hP]; exact bs_append [77, 85, 76, 84, 73, 80, 79, 76, 89, 71, 79, 78, 32, 40] t
        have l1 : P.length = t.length + 14 := by rw [hP]; simp [Mk.word]
        have z1 := bs_size P
        have q2 : bs P ++ ByteArray.mk #[41] = bs (P ++ [41]) := bs_append P [41]
        rw [← hP] at HT
        clear HR HE HW hP
        go_wp2
        go_ret
        rw [HT.out]
        exact ⟨rfl, HU.out⟩

end Go.Proofs.YtcclepohmhdpbaaGreatDoor
