/- Known: text, pick. -/
import Derived.Test.YtcclepohmhdpbabGreatDoorKnA
namespace Go.Proofs.YtcclepohmhdpbabGreatDoor
set_option linter.all false
open Go.RowKit Go.Deep

namespace Kn
theorem body_succ {l : List (List UInt8)} {n : Nat} {r : List UInt8} (h : l[n]? = some r) : body l (n + 1) = body l n ++ (gap n r ++ r.drop 1) := by
  unfold body
  rw [List.range_succ, List.flatMap_append]
  congr 1
  simp [List.getD_eq_getElem?_getD, h]
/-- texts in a list. -/
def RdS (w : World) (v : Value) (l : List (List UInt8)) : Prop := ∃ ao cap, v = .slice ao l.length cap ∧ ∀ i r, l[i]? = some r → ∃ b, ao = some ⟨b, 0, .none⟩ ∧ w.cell? ⟨b, i, .none⟩ = some (.string (bs r))
theorem RdS.up {w w' : World} {v : Value} {l : List (List UInt8)} (h : RdS w v l) (k : Up w w') : RdS w' v l := by
  obtain ⟨ao, cap, e, h⟩ := h
  exact ⟨ao, cap, e, fun i r hr => by obtain ⟨b, eb, c⟩ := h i r hr; exact ⟨b, eb, k.cell c⟩⟩
end Kn

set_option maxRecDepth 100000 in
set_option maxHeartbeats 4000000 in
theorem ktext_any (v : Value) (l : List (List UInt8)) (w : World) (hv : Kn.RdS w v l) (hl : l.length ≤ 100) (hr : ∀ r ∈ l, 1 ≤ r.length ∧ r.length ≤ 1000) :
    Calls Tryz.prog 28 #[v] w fun e w' => e = .returned (.string (bs (Kn.text l))) ∧ w' = w := by
  obtain ⟨ao, cap, rfl, hm⟩ := hv
  have HM := hide hm
  have HR := hide hr
  clear hm hr
  by_cases h0 : l.length = 0
  · have HT : Hid (Kn.text l = Kn.none) := by unfold Kn.text; rw [if_pos h0]; exact rfl
    have q : (ByteArray.mk #[77, 85, 76, 84, 73, 80, 79, 76, 89, 71, 79, 78, 32, 69, 77, 80, 84, 89]) = bs Kn.none := rfl
    rw [h0]
    have Q := hide q
    clear q
    go_enter Tryz.func28, Tryz.ntmps28
    go_wp2
    go_ret
    exact ⟨by rw [HT.out]; rfl, rfl⟩
  · have HT : Hid (Kn.text l = Kn.word ++ Kn.body l l.length ++ [41, 41]) := by unfold Kn.text; rw [if_neg h0]; exact rfl
    have j0 : ((l.length : Int) == 0) = false := beq_eq_false_iff_ne.2 (by omega)
    go_enter Tryz.func28, Tryz.ntmps28
    go_wp2
    go_loopw [3, 4] (fun s i wr => ∃ (k : Nat) (t : List UInt8), wr = w ∧ i = .int .i64 k ∧ s = .string (bs t) ∧ k ≤ l.length ∧ t.length ≤ 20 + k * 1010 ∧ Hid (t = Kn.word ++ Kn.body l k)) (fun _ i _ => l.length - (intOf i).toNat)
    case atStart => exact ⟨0, Kn.word, rfl, rfl, rfl, Nat.zero_le _, by decide, rfl⟩
    case round =>
      obtain ⟨k, t, rfl, rfl, rfl, hk, htl, HE⟩ := hrel
      by_cases hlt : k < l.length
      · obtain ⟨r, hr⟩ := Pl.some_of_lt hlt
        obtain ⟨b, rfl, c0⟩ := HM.out k r hr
        have HB := hide (Kn.body_succ hr)
        obtain ⟨r1, r2⟩ := HR.out r (Pl.mem_of_some hr)
        obtain ⟨e0, e1, e2, e3, e4, e5⟩ := bs_tells r
        have e6 := e2 1
        have l1 : (r.drop 1).length = r.length - 1 := by simp
        obtain ⟨y, hy⟩ : ∃ y, r.drop 1 = y := ⟨_, rfl⟩
        rw [hy] at e6 l1 HB
        have z0 := bs_size t
        have z1 := bs_size y
        clear hy
        have j1 : (0 : Int) ≤ (k : Int) := by omega
        have j2 : (k : Int) < (l.length : Int) := by omega
        have j3 : (0 : Int) < (r.length : Int) := by omega
        have j4 : (1 : Int) ≤ (r.length : Int) := by omega
        have HX : Hid (Tx.at_ r 0 = 83 ↔ r.head? = some 83) := by
          cases r with
          | nil => simp at r1
          | cons x y =>
            show _ ↔ _
            rw [Tx.at_lt (by simp)]
            simp only [List.getElem_cons_zero, List.head?_cons, Option.some.injEq]
            constructor
            · intro h; exact UInt8.toNat_inj.1 (by have : x.toNat = 83 := by omega
                                                   simpa using this)
            · intro h; rw [h]; rfl
        clear hr e2 e3 e4 e5
        by_cases hS : r.head? = some 83
        · have hA := HX.out.2 hS
          by_cases hk0 : k = 0
          · have HG : Hid (Kn.gap k r = [40]) := by unfold Kn.gap; rw [if_pos hS, if_neg (by omega)]; exact rfl
            subst hk0
            clear hS HX
            obtain ⟨T0, hT0⟩ : ∃ Z, Z = t ++ [40] := ⟨_, rfl⟩
            have qT0 : bs t ++ ByteArray.mk #[40] = bs T0 := by rw [hT0]; exact bs_append t [40]
            have lT0 : T0.length = t.length + 1 := by rw [hT0]; simp
            have zT0 := bs_size T0
            obtain ⟨T, hT⟩ : ∃ Z, Z = T0 ++ y := ⟨_, rfl⟩
            have qT : bs T0 ++ bs y = bs T := by rw [hT]; exact bs_append T0 y
            have lT : T.length = T0.length + y.length := by rw [hT]; simp
            have HEn : Hid (T = Kn.word ++ Kn.body l (0 + 1)) := by rw [HB.out, HG.out, hT, hT0, HE.out]; show _ = _; simp
            clear hT hT0
            go_wp2
            go_roundw
            case rel => exact ⟨0 + 1, T, trivial, by go_num, rfl, by omega, by omega, HEn⟩
            case measure => simp [intOf]; omega
          · have HG : Hid (Kn.gap k r = [41, 44, 32] ++ [40]) := by unfold Kn.gap; rw [if_pos hS, if_pos (by omega)]; exact rfl
            have j5 : (0 : Int) < (k : Int) := by omega
            clear hS HX hk0
            obtain ⟨T0, hT0⟩ : ∃ Z, Z = t ++ [41, 44, 32] := ⟨_, rfl⟩
            have qT0 : bs t ++ ByteArray.mk #[41, 44, 32] = bs T0 := by rw [hT0]; exact bs_append t [41, 44, 32]
            have lT0 : T0.length = t.length + 3 := by rw [hT0]; simp
            have zT0 := bs_size T0
            obtain ⟨T1, hT1⟩ : ∃ Z, Z = T0 ++ [40] := ⟨_, rfl⟩
            have qT1 : bs T0 ++ ByteArray.mk #[40] = bs T1 := by rw [hT1]; exact bs_append T0 [40]
            have lT1 : T1.length = T0.length + 1 := by rw [hT1]; simp
            have zT1 := bs_size T1
            obtain ⟨T, hT⟩ : ∃ Z, Z = T1 ++ y := ⟨_, rfl⟩
            have qT : bs T1 ++ bs y = bs T := by rw [hT]; exact bs_append T1 y
            have lT : T.length = T1.length + y.length := by rw [hT]; simp
            have HEn : Hid (T = Kn.word ++ Kn.body l (k + 1)) := by rw [HB.out, HG.out, hT, hT1, hT0, HE.out]; show _ = _; simp
            clear hT hT0 hT1
            go_wp2
            go_roundw
            case rel => exact ⟨k + 1, T, trivial, by go_num, rfl, by omega, by omega, HEn⟩
            case measure => simp [intOf]; omega
        · have HG : Hid (Kn.gap k r = [44, 32]) := by unfold Kn.gap; rw [if_neg hS]; exact rfl
          have hA : ¬ Tx.at_ r 0 = 83 := fun h => hS (HX.out.1 h)
          have hA2 : (Tx.at_ r 0 == 83) = false := beq_eq_false_iff_ne.2 hA
          clear hS HX
          obtain ⟨T0, hT0⟩ : ∃ Z, Z = t ++ [44, 32] := ⟨_, rfl⟩
          have qT0 : bs t ++ ByteArray.mk #[44, 32] = bs T0 := by rw [hT0]; exact bs_append t [44, 32]
          have lT0 : T0.length = t.length + 2 := by rw [hT0]; simp
          have zT0 := bs_size T0
          obtain ⟨T, hT⟩ : ∃ Z, Z = T0 ++ y := ⟨_, rfl⟩
          have qT : bs T0 ++ bs y = bs T := by rw [hT]; exact bs_append T0 y
          have lT : T.length = T0.length + y.length := by rw [hT]; simp
          have HEn : Hid (T = Kn.word ++ Kn.body l (k + 1)) := by rw [HB.out, HG.out, hT, hT0, HE.out]; show _ = _; simp
          clear hT hT0
          go_wp2
          go_roundw
          case rel => exact ⟨k + 1, T, trivial, by go_num, rfl, by omega, by omega, HEn⟩
          case measure => simp [intOf]; omega
      · have hk2 : k = l.length := by omega
        have HF : Hid (Kn.text l = t ++ [41, 41]) := by rw [HT.out, HE.out, hk2]; exact rfl
        obtain ⟨T, hT⟩ : ∃ Z, Z = t ++ [41, 41] := ⟨_, rfl⟩
        have qT : bs t ++ ByteArray.mk #[41, 41] = bs T := by rw [hT]; exact bs_append t [41, 41]
        rw [← hT] at HF
        have z0 := bs_size t
        have j2 : ¬ (k : Int) < (l.length : Int) := by omega
        clear hT hk2
        go_wp2
        go_ret
        exact ⟨by rw [HF.out]; rfl, rfl⟩

set_option maxRecDepth 100000 in
theorem pick36_any (c : Int) (h1 : -9223372036854775808 ≤ c) (h2 : c ≤ 9223372036854775807) (w : World) :
    Calls Tryz.prog 14 #[.int .i64 c, .int .i64 36] w fun e w' => ∃ i : Nat, e = .returned (.int .i64 i) ∧ i < 36 ∧ w' = w := by
  by_cases h0 : c < 0
  · have e1 : wrap64 (c + 1) = c + 1 := by unfold wrap64; omega
    have e2 : wrap64 (-(c + 1)) = -(c + 1) := by unfold wrap64; omega
    go_enter Tryz.func14, Tryz.ntmps14
    go_wp2
    go_ret
    have hx : (-((c + 1).tmod 36)) = (-(c + 1)) % 36 := by rw [← Int.neg_tmod, Int.tmod_eq_emod_of_nonneg (by omega)]
    refine ⟨((-(c + 1)) % 36).toNat, ?_, by omega, rfl⟩
    rw [Int.toNat_of_nonneg (by omega)]
    rw [← hx]; first | rfl | (rw [hx]; rfl)
  · go_enter Tryz.func14, Tryz.ntmps14
    go_wp2
    go_ret
    refine ⟨(c % 36).toNat, ?_, by omega, rfl⟩
    rw [Int.toNat_of_nonneg (by omega)]
    first | rfl | rw [Int.tmod_eq_emod_of_nonneg (by omega)]
end Go.Proofs.YtcclepohmhdpbabGreatDoor
