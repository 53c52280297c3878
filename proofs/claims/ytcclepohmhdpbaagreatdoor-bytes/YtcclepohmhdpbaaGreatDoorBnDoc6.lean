/- THE DOCUMENT's BYTES, WRITTEN: numbers, doubles. -/
import Derived.Test.YtcclepohmhdpbaaGreatDoorBnText
import Derived.Test.YtcclepohmhdpbaaGreatDoorBnDoc2
namespace Go.Proofs.YtcclepohmhdpbaaGreatDoor
set_option linter.all false
open Go.RowKit Go.Deep

namespace Bn
def Sm32 (q : Nat) : Prop := q < 4294967296
theorem put_step (lit : Bool) (k v : Nat) : put lit (k + 1) v = if lit = true then put lit k v ++ [UInt8.ofNat (v / 256 ^ k % 256)] else UInt8.ofNat (v / 256 ^ k % 256) :: put lit k v := by
  have e : low (k + 1) v = low k v ++ [UInt8.ofNat (v / 256 ^ k % 256)] := by rw [low_add]; rfl
  cases lit
  · show (low (k + 1) v).reverse = _ :: (low k v).reverse
    rw [e]; simp
  · show low (k + 1) v = low k v ++ [_]
    rw [e]
end Bn

set_option maxRecDepth 100000 in
set_option maxHeartbeats 2000000 in
theorem dspread_any (v n : Nat) (lit : Bool) (w : World) (hv : v < 4294967296) (hn : n ≤ 8) :
    Calls Tryz.prog 81 #[.int .i64 v, .int .i64 n, .bool lit] w fun e w' => e = .returned (.string (bs (Bn.put lit n v))) ∧ Up w w' := by
  have HV := hide hv
  clear hv
  go_enter Tryz.func81, Tryz.ntmps81
  go_wp2
  go_loopw [0, 7, 8] (fun r s i wr => ∃ k R : Nat, k ≤ n ∧ i = .int .i64 k ∧ r = .int .i64 R ∧ Hid (R = v / 256 ^ k) ∧ s = .string (bs (Bn.put lit k v)) ∧ Hid (Up w wr)) (fun _ _ i _ => n - (intOf i).toNat)
  case atStart => exact ⟨0, v, Nat.zero_le _, rfl, rfl, by simp [Hid], by cases lit <;> rfl, Up.refl w⟩
  case round =>
    obtain ⟨k, R, hk, rfl, rfl, HR, rfl, HU⟩ := hrel
    by_cases hlt : k < n
    · have HS := hide (Bn.put_step lit k v)
      rw [← HR.out] at HS
      have hR : (R : Int) < 4294967296 := by
        have : R ≤ v := by rw [HR.out]; exact Nat.div_le_self _ _
        have := HV.out
        omega
      have HD : Hid (R / 256 = v / 256 ^ (k + 1)) := by show _ = _; rw [HR.out, Nat.div_div_eq_div_mul, Nat.pow_succ]
      have hy : ((R : Int) % 256) = ((UInt8.ofNat (R % 256)).toNat : Int) := by simp
      generalize UInt8.ofNat (R % 256) = y at *
      have kc := bytes_string (VRow.new wr (Bn.cells [y]) 5) (n := 1) rfl
      simp only [Bn.cells, List.map_cons, List.map_nil] at kc
      have hpl := Bn.put_length lit k v
      obtain ⟨P, hP⟩ : ∃ P, P = Bn.put lit k v := ⟨_, rfl⟩
      rw [← hP] at HS hpl ⊢
      have z0 := bs_size P
      have z1 := bs_size [y]
      have t1 := bs_append P [y]
      have t2 : bs [y] ++ bs P = bs (y :: P) := bs_append [y] P
      have hyb : (y.toNat : Int) ≤ 255 := by have := y.toNat_lt; omega
      clear hP HR
      cases lit
      · have HX : Hid (Bn.put false (k + 1) v = y :: P) := HS.out
        clear HS
        go_wp2
        go_roundw
        case rel => exact ⟨k + 1, R / 256, by omega, by go_num, by go_num, HD, by rw [HX.out], HU.out.alloc _⟩
        case measure => simp [intOf]; omega
      · have HX : Hid (Bn.put true (k + 1) v = P ++ [y]) := HS.out
        clear HS
        go_wp2
        go_roundw
        case rel => exact ⟨k + 1, R / 256, by omega, by go_num, by go_num, HD, by rw [HX.out], HU.out.alloc _⟩
        case measure => simp [intOf]; omega
    · have hkn : k = n := by omega
      subst hkn
      go_wp2
      go_ret
      exact ⟨rfl, HU.out⟩

set_option maxRecDepth 100000 in
set_option maxHeartbeats 4000000 in
theorem dreal_any (u : Int) (lit : Bool) (w : World) (h1 : -32768 ≤ u) (h2 : u ≤ 32768) :
    Calls Tryz.prog 82 #[.int .i64 u, .bool lit] w fun e w' => e = .returned (.string (bs (Bn.put lit 8 (Bn.dbl u)))) ∧ Up w w' := by
  by_cases h0 : u = 0
  · subst h0
    have HL := hide (show Bn.put lit 8 (Bn.dbl 0) = _ from Bn.put_halves lit 0 0 (by omega))
    have l1 := Bn.put_length lit 4 0
    obtain ⟨PH, hPH⟩ : ∃ P, P = Bn.put lit 4 0 := ⟨_, rfl⟩
    rw [← hPH] at HL l1
    have HPH := hide hPH
    clear hPH
    have z1 := bs_size PH
    have t1 := bs_append PH PH
    go_enter Tryz.func82, Tryz.ntmps82
    go_wp2_with fail
    go_loop [0, 6] (fun a e => a = .int .i64 0 ∧ e = .int .i64 1071) (fun _ _ => 0)
    case atStart => exact ⟨rfl, rfl⟩
    case round =>
      obtain ⟨rfl, rfl⟩ := hrel
      go_wp2_with fail
      refine (dspread_any 0 4 lit _ (by omega) (by omega)).mono ?_
      rintro e w1 ⟨rfl, u1⟩
      rw [← HPH.out]
      replace u1 := hide u1
      go_wp2_with fail
      refine (dspread_any 0 4 lit _ (by omega) (by omega)).mono ?_
      rintro e w2 ⟨rfl, u2⟩
      rw [← HPH.out]
      replace u2 := hide u2
      cases lit
      all_goals
        go_wp2
        go_ret
        rw [HL.out]
        exact ⟨rfl, u1.out.trans u2.out⟩
  · by_cases hs : u < 0
    · obtain ⟨K, rfl⟩ : ∃ K : Nat, u = -(K : Int) := ⟨u.natAbs, by omega⟩
      have HB := hide (show Bn.dbl (-(K : Int)) = Bn.dblOf true K (Bn.sh 60 K) by unfold Bn.dbl; rw [if_neg h0, Int.natAbs_neg, Int.natAbs_natCast, decide_eq_true hs])
      have hK1 : 0 < K := by omega
      have hK2 : K ≤ 32768 := by omega
      go_enter Tryz.func82, Tryz.ntmps82
      go_wp2_with fail
      go_loop [0, 6] (fun a e => ∃ i x y : Nat, i ≤ 52 ∧ Hid (x + i = 1071) ∧ a = .int .i64 y ∧ e = .int .i64 x ∧ Hid (y = K * 2 ^ i) ∧ Bn.Sm y ∧ Hid (Bn.sh 60 K = i + Bn.sh (60 - i) y)) (fun _ e => (intOf e).toNat)
      case atStart => exact ⟨0, 1071, K, by omega, rfl, rfl, rfl, by simp [Hid], by show _ < _; omega, by simp [Hid]⟩
      case round =>
        obtain ⟨i, x, a, hi, hx, rfl, rfl, HA, hlt, HS⟩ := hrel
        replace hx := hx.out
        have hlt' : a < 9007199254740992 := hlt
        have HP : Hid (2 * a = K * 2 ^ (i + 1)) := by show _ = _; rw [HA.out, Nat.pow_succ, Nat.mul_comm 2, Nat.mul_assoc]
        have hpos : 0 < a := by rw [HA.out]; exact Nat.mul_pos hK1 (Nat.pow_pos (by omega))
        have HI := hide (fun h => Bn.pow_lt (k := K) (i := i + 1) hK1 h)
        rw [show 60 - i = (60 - (i + 1)) + 1 by omega] at HS
        by_cases hc : a < 4503599627370496
        · have HT := hide (Bn.sh_step HS.out hc)
          have hi2 : i + 1 ≤ 52 := HI.out (by rw [← HP.out]; omega)
          have hc' : (a : Int) < 4503599627370496 := by omega
          have HN : Bn.Sm (2 * a) := by show _ < _; omega
          clear HS hlt' hc HI
          go_wp2
          go_round
          case rel => exact ⟨i + 1, x - 1, 2 * a, hi2, by show _ = _; omega, by go_num, by go_num, HP, HN, HT⟩
          case measure => simp [intOf]; omega
        · have HT := hide (Bn.sh_end HS.out hc)
          obtain ⟨r, hr⟩ : ∃ r, a = r + 4503599627370496 := ⟨a - 4503599627370496, by omega⟩
          have HF : Hid (Bn.dbl (-(K : Int)) = (2048 + x) * 4503599627370496 + r) := by
            have e1 : 1071 - i = x := by omega
            have e2 : K * 2 ^ i - 4503599627370496 = r := by rw [← HA.out]; omega
            rw [HB.out, HT.out]
            unfold Bn.dblOf
            rw [e1, e2]
            show _ = _
            rw [if_pos rfl]; omega
          obtain ⟨hiP, hhi⟩ : ∃ h, h = (2048 + x) * 1048576 + r / 4294967296 := ⟨_, rfl⟩
          obtain ⟨loP, hlo⟩ : ∃ h, h = r % 4294967296 := ⟨_, rfl⟩
          have HG : Hid (Bn.dbl (-(K : Int)) = hiP * 4294967296 + loP) := by rw [HF.out]; show _ = _; omega
          have b1 : Bn.Sm32 hiP := by show _ < _; omega
          have b2 : Bn.Sm32 loP := by show _ < _; omega
          have q1 : (a : Int) - 4503599627370496 = (r : Int) := by omega
          have q2 : ((2048 : Int) + (x : Int)) * 1048576 + (r : Int) / 4294967296 = (hiP : Int) := by omega
          have q3 : (r : Int) % 4294967296 = (loP : Int) := by omega
          have hc' : ¬ (a : Int) < 4503599627370496 := by omega
          have hp' : (0 : Int) < (a : Int) := by omega
          have hx' : x ≤ 1071 := by omega
          have hr0 : (0 : Int) ≤ (r : Int) := by omega
          have hr1 : (r : Int) < 4503599627370496 := by omega
          have HL := hide (Bn.put_halves lit hiP loP b2)
          rw [← HG.out] at HL
          have l1 := Bn.put_length lit 4 hiP
          have l2 := Bn.put_length lit 4 loP
          obtain ⟨PH, hPH⟩ : ∃ P, P = Bn.put lit 4 hiP := ⟨_, rfl⟩
          obtain ⟨PL, hPL⟩ : ∃ P, P = Bn.put lit 4 loP := ⟨_, rfl⟩
          rw [← hPH] at HL l1
          rw [← hPL] at HL l2
          have HPH := hide hPH
          have HPL := hide hPL
          clear HS hr hc hlt' hx HI HP HA HF HG hhi hlo hPH hPL hlt HB HT hpos
          obtain ⟨A, hA⟩ : ∃ A : Int, (a : Int) = A := ⟨_, rfl⟩
          rw [hA] at hc' hp' q1 ⊢
          obtain ⟨R, hR⟩ : ∃ R : Int, (r : Int) = R := ⟨_, rfl⟩
          rw [hR] at q1 q2 q3 hr0 hr1
          clear hA hR
          go_wp2_with fail
          refine (dspread_any hiP 4 lit _ b1 (by omega)).mono ?_
          rintro e w1 ⟨rfl, u1⟩
          rw [← HPH.out]
          replace u1 := hide u1
          clear q1 q2
          go_wp2_with fail
          refine (dspread_any loP 4 lit _ b2 (by omega)).mono ?_
          rintro e w2 ⟨rfl, u2⟩
          rw [← HPL.out]
          replace u2 := hide u2
          clear q3
          have z1 := bs_size PH
          have z2 := bs_size PL
          have t1 := bs_append PH PL
          have t2 := bs_append PL PH
          cases lit
          all_goals
            go_wp2
            go_ret
            rw [HL.out]
            exact ⟨rfl, u1.out.trans u2.out⟩
    · obtain ⟨K, rfl⟩ := Int.eq_ofNat_of_zero_le (Int.not_lt.1 hs)
      have HB := hide (show Bn.dbl (K : Int) = Bn.dblOf false K (Bn.sh 60 K) by unfold Bn.dbl; rw [if_neg h0, Int.natAbs_natCast, decide_eq_false hs])
      have hK1 : 0 < K := by omega
      have hK2 : K ≤ 32768 := by omega
      go_enter Tryz.func82, Tryz.ntmps82
      go_wp2_with fail
      go_loop [0, 6] (fun a e => ∃ i x y : Nat, i ≤ 52 ∧ Hid (x + i = 1071) ∧ a = .int .i64 y ∧ e = .int .i64 x ∧ Hid (y = K * 2 ^ i) ∧ Bn.Sm y ∧ Hid (Bn.sh 60 K = i + Bn.sh (60 - i) y)) (fun _ e => (intOf e).toNat)
      case atStart => exact ⟨0, 1071, K, by omega, rfl, rfl, rfl, by simp [Hid], by show _ < _; omega, by simp [Hid]⟩
      case round =>
        obtain ⟨i, x, a, hi, hx, rfl, rfl, HA, hlt, HS⟩ := hrel
        replace hx := hx.out
        have hlt' : a < 9007199254740992 := hlt
        have HP : Hid (2 * a = K * 2 ^ (i + 1)) := by show _ = _; rw [HA.out, Nat.pow_succ, Nat.mul_comm 2, Nat.mul_assoc]
        have hpos : 0 < a := by rw [HA.out]; exact Nat.mul_pos hK1 (Nat.pow_pos (by omega))
        have HI := hide (fun h => Bn.pow_lt (k := K) (i := i + 1) hK1 h)
        rw [show 60 - i = (60 - (i + 1)) + 1 by omega] at HS
        by_cases hc : a < 4503599627370496
        · have HT := hide (Bn.sh_step HS.out hc)
          have hi2 : i + 1 ≤ 52 := HI.out (by rw [← HP.out]; omega)
          have hc' : (a : Int) < 4503599627370496 := by omega
          have HN : Bn.Sm (2 * a) := by show _ < _; omega
          clear HS hlt' hc HI
          go_wp2
          go_round
          case rel => exact ⟨i + 1, x - 1, 2 * a, hi2, by show _ = _; omega, by go_num, by go_num, HP, HN, HT⟩
          case measure => simp [intOf]; omega
        · have HT := hide (Bn.sh_end HS.out hc)
          obtain ⟨r, hr⟩ : ∃ r, a = r + 4503599627370496 := ⟨a - 4503599627370496, by omega⟩
          have HF : Hid (Bn.dbl (K : Int) = (0 + x) * 4503599627370496 + r) := by
            have e1 : 1071 - i = x := by omega
            have e2 : K * 2 ^ i - 4503599627370496 = r := by rw [← HA.out]; omega
            rw [HB.out, HT.out]
            unfold Bn.dblOf
            rw [e1, e2]
            show _ = _
            rw [if_neg (by decide)]; omega
          obtain ⟨hiP, hhi⟩ : ∃ h, h = (0 + x) * 1048576 + r / 4294967296 := ⟨_, rfl⟩
          obtain ⟨loP, hlo⟩ : ∃ h, h = r % 4294967296 := ⟨_, rfl⟩
          have HG : Hid (Bn.dbl (K : Int) = hiP * 4294967296 + loP) := by rw [HF.out]; show _ = _; omega
          have b1 : Bn.Sm32 hiP := by show _ < _; omega
          have b2 : Bn.Sm32 loP := by show _ < _; omega
          have q1 : (a : Int) - 4503599627370496 = (r : Int) := by omega
          have q2 : (x : Int) * 1048576 + (r : Int) / 4294967296 = (hiP : Int) := by omega
          have q3 : (r : Int) % 4294967296 = (loP : Int) := by omega
          have hc' : ¬ (a : Int) < 4503599627370496 := by omega
          have hp' : (0 : Int) < (a : Int) := by omega
          have hx' : x ≤ 1071 := by omega
          have hr0 : (0 : Int) ≤ (r : Int) := by omega
          have hr1 : (r : Int) < 4503599627370496 := by omega
          have HL := hide (Bn.put_halves lit hiP loP b2)
          rw [← HG.out] at HL
          have l1 := Bn.put_length lit 4 hiP
          have l2 := Bn.put_length lit 4 loP
          obtain ⟨PH, hPH⟩ : ∃ P, P = Bn.put lit 4 hiP := ⟨_, rfl⟩
          obtain ⟨PL, hPL⟩ : ∃ P, P = Bn.put lit 4 loP := ⟨_, rfl⟩
          rw [← hPH] at HL l1
          rw [← hPL] at HL l2
          have HPH := hide hPH
          have HPL := hide hPL
          clear HS hr hc hlt' hx HI HP HA HF HG hhi hlo hPH hPL hlt HB HT hpos
          obtain ⟨A, hA⟩ : ∃ A : Int, (a : Int) = A := ⟨_, rfl⟩
          rw [hA] at hc' hp' q1 ⊢
          obtain ⟨R, hR⟩ : ∃ R : Int, (r : Int) = R := ⟨_, rfl⟩
          rw [hR] at q1 q2 q3 hr0 hr1
          clear hA hR
          go_wp2_with fail
          refine (dspread_any hiP 4 lit _ b1 (by omega)).mono ?_
          rintro e w1 ⟨rfl, u1⟩
          rw [← HPH.out]
          replace u1 := hide u1
          clear q1 q2
          go_wp2_with fail
          refine (dspread_any loP 4 lit _ b2 (by omega)).mono ?_
          rintro e w2 ⟨rfl, u2⟩
          rw [← HPL.out]
          replace u2 := hide u2
          clear q3
          have z1 := bs_size PH
          have z2 := bs_size PL
          have t1 := bs_append PH PL
          have t2 := bs_append PL PH
          cases lit
          all_goals
            go_wp2
            go_ret
            rw [HL.out]
            exact ⟨rfl, u1.out.trans u2.out⟩
end Go.Proofs.YtcclepohmhdpbaaGreatDoor
