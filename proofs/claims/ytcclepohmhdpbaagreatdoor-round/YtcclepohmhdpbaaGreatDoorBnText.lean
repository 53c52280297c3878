import Derived.Test.YtcclepohmhdpbaaGreatDoorBnWrite
import Derived.Test.YtcclepohmhdpbaaGreatDoorLaw
/- THE PROGRAM's BYTES, WRITTEN: doubles, heads, rings, sets. -/
namespace Go.Proofs.YtcclepohmhdpbaaGreatDoor
set_option linter.all false
open Go.RowKit Go.Deep

namespace Bn
theorem pow_lt {k i : Nat} (hk : 0 < k) (h : k * 2 ^ i < 9007199254740992) : i ≤ 52 := by
  rcases Nat.lt_or_ge 52 i with h1 | h1
  · have : 2 ^ 53 ≤ 2 ^ i := Nat.pow_le_pow_right (by omega) h1
    have h2 : 1 * 2 ^ i ≤ k * 2 ^ i := Nat.mul_le_mul_right _ hk
    have e : (2 : Nat) ^ 53 = 9007199254740992 := rfl
    omega
  · exact h1
end Bn

set_option maxRecDepth 100000 in
set_option maxHeartbeats 2000000 in
theorem wdouble_any (u : Int) (w : World) (h1 : -32768 ≤ u) (h2 : u ≤ 32768) :
    Calls Tryz.prog 190 #[.int .i64 u] w fun e w' => e = .returned (.int .u64 (Bn.dbl u)) ∧ w' = w := by
  by_cases h0 : u = 0
  · subst h0
    go_enter Tryz.func190, Tryz.ntmps190
    go_wp2
    go_ret
    exact ⟨rfl, rfl⟩
  · by_cases hs : u < 0
    · obtain ⟨K, rfl⟩ : ∃ K : Nat, u = -(K : Int) := ⟨u.natAbs, by omega⟩
      have HB := hide (show Bn.dbl (-(K : Int)) = Bn.dblOf true K (Bn.sh 60 K) by unfold Bn.dbl; rw [if_neg h0, Int.natAbs_neg, Int.natAbs_natCast, decide_eq_true hs])
      have hK1 : 0 < K := by omega
      have hK2 : K ≤ 32768 := by omega
      go_enter Tryz.func190, Tryz.ntmps190
      go_wp2
      go_loop [4, 5] (fun a e => ∃ i x y : Nat, i ≤ 52 ∧ Hid (x + i = 1071) ∧ a = .int .u64 y ∧ e = .int .u64 x ∧ Hid (y = K * 2 ^ i) ∧ Hid (y < 9007199254740992) ∧ Hid (Bn.sh 60 K = i + Bn.sh (60 - i) y)) (fun _ e => (intOf e).toNat)
      case atStart => exact ⟨0, 1071, K, by omega, rfl, rfl, rfl, by simp [Hid], by show _ < _; omega, by simp [Hid]⟩
      case round =>
        obtain ⟨i, x, a, hi, hx, rfl, rfl, HA, hlt, HS⟩ := hrel
        replace hx := hx.out
        replace hlt := hlt.out
        have HP : Hid (2 * a = K * 2 ^ (i + 1)) := by show _ = _; rw [HA.out, Nat.pow_succ, Nat.mul_comm 2, Nat.mul_assoc]
        have hpos : 0 < a := by rw [HA.out]; exact Nat.mul_pos hK1 (Nat.pow_pos (by omega))
        have HI := hide (fun h => Bn.pow_lt (k := K) (i := i + 1) hK1 h)
        rw [show 60 - i = (60 - (i + 1)) + 1 by omega] at HS
        by_cases hc : a < 4503599627370496
        · have HT := hide (Bn.sh_step HS.out hc)
          have hi2 : i + 1 ≤ 52 := HI.out (by rw [← HP.out]; omega)
          have hc' : (a : Int) < 4503599627370496 := by omega
          have HL := hide hlt
          have HC := hide hc
          clear HS hlt hc
          go_wp2
          go_round
          case rel => exact ⟨i + 1, x - 1, 2 * a, hi2, by show _ = _; omega, by go_num, by go_num, HP, by have := HC.out; show _ < _; omega, HT⟩
          case measure => simp [intOf]; omega
        · have HT := hide (Bn.sh_end HS.out hc)
          obtain ⟨r, hr⟩ : ∃ r, a = r + 4503599627370496 := ⟨a - 4503599627370496, by omega⟩
          have q1 : bits .and .u64 (a : Int) 4503599627370495 = (r : Int) := by
            have := Bn.u64_mask a 52 4503599627370495 (by omega) rfl (by omega)
            rw [show a % 2 ^ 52 = r by show a % 4503599627370496 = _; omega] at this
            exact this
          have q2 := Bn.u64_parts true x r (by omega) (by omega)
          have HF : Hid (Bn.dbl (-(K : Int)) = (if true = true then 9223372036854775808 else 0) + x * 4503599627370496 + r) := by
            have e1 : 1071 - i = x := by omega
            have e2 : K * 2 ^ i - 4503599627370496 = r := by rw [← HA.out]; omega
            rw [HB.out, HT.out]
            unfold Bn.dblOf
            rw [e1, e2]
            show _ = _
            rfl
          obtain ⟨Z, hZ⟩ : ∃ Z, Z = (if true = true then 9223372036854775808 else 0) + x * 4503599627370496 + r := ⟨_, rfl⟩
          rw [← hZ] at q2 HF
          simp only [Bool.false_eq_true, if_true, if_false] at q2
          have hc' : ¬ (a : Int) < 4503599627370496 := by omega
          have hl' : (a : Int) < 9007199254740992 := by omega
          have hx' : x ≤ 1071 := by omega
          have hr' : (r : Int) < 4503599627370496 := by omega
          clear HS hr hZ hc hlt hx hpos HI HP HA
          go_wp2
          go_ret
          exact ⟨by rw [HF.out]; rfl, rfl⟩
    · obtain ⟨K, rfl⟩ := Int.eq_ofNat_of_zero_le (Int.not_lt.1 hs)
      have HB := hide (show Bn.dbl (K : Int) = Bn.dblOf false K (Bn.sh 60 K) by unfold Bn.dbl; rw [if_neg h0, Int.natAbs_natCast, decide_eq_false hs])
      have hK1 : 0 < K := by omega
      have hK2 : K ≤ 32768 := by omega
      go_enter Tryz.func190, Tryz.ntmps190
      go_wp2
      go_loop [4, 5] (fun a e => ∃ i x y : Nat, i ≤ 52 ∧ Hid (x + i = 1071) ∧ a = .int .u64 y ∧ e = .int .u64 x ∧ Hid (y = K * 2 ^ i) ∧ Hid (y < 9007199254740992) ∧ Hid (Bn.sh 60 K = i + Bn.sh (60 - i) y)) (fun _ e => (intOf e).toNat)
      case atStart => exact ⟨0, 1071, K, by omega, rfl, rfl, rfl, by simp [Hid], by show _ < _; omega, by simp [Hid]⟩
      case round =>
        obtain ⟨i, x, a, hi, hx, rfl, rfl, HA, hlt, HS⟩ := hrel
        replace hx := hx.out
        replace hlt := hlt.out
        have HP : Hid (2 * a = K * 2 ^ (i + 1)) := by show _ = _; rw [HA.out, Nat.pow_succ, Nat.mul_comm 2, Nat.mul_assoc]
        have hpos : 0 < a := by rw [HA.out]; exact Nat.mul_pos hK1 (Nat.pow_pos (by omega))
        have HI := hide (fun h => Bn.pow_lt (k := K) (i := i + 1) hK1 h)
        rw [show 60 - i = (60 - (i + 1)) + 1 by omega] at HS
        by_cases hc : a < 4503599627370496
        · have HT := hide (Bn.sh_step HS.out hc)
          have hi2 : i + 1 ≤ 52 := HI.out (by rw [← HP.out]; omega)
          have hc' : (a : Int) < 4503599627370496 := by omega
          have HL := hide hlt
          have HC := hide hc
          clear HS hlt hc
          go_wp2
          go_round
          case rel => exact ⟨i + 1, x - 1, 2 * a, hi2, by show _ = _; omega, by go_num, by go_num, HP, by have := HC.out; show _ < _; omega, HT⟩
          case measure => simp [intOf]; omega
        · have HT := hide (Bn.sh_end HS.out hc)
          obtain ⟨r, hr⟩ : ∃ r, a = r + 4503599627370496 := ⟨a - 4503599627370496, by omega⟩
          have q1 : bits .and .u64 (a : Int) 4503599627370495 = (r : Int) := by
            have := Bn.u64_mask a 52 4503599627370495 (by omega) rfl (by omega)
            rw [show a % 2 ^ 52 = r by show a % 4503599627370496 = _; omega] at this
            exact this
          have q2 := Bn.u64_parts false x r (by omega) (by omega)
          have HF : Hid (Bn.dbl (K : Int) = (if false = true then 9223372036854775808 else 0) + x * 4503599627370496 + r) := by
            have e1 : 1071 - i = x := by omega
            have e2 : K * 2 ^ i - 4503599627370496 = r := by rw [← HA.out]; omega
            rw [HB.out, HT.out]
            unfold Bn.dblOf
            rw [e1, e2]
            show _ = _
            rfl
          obtain ⟨Z, hZ⟩ : ∃ Z, Z = (if false = true then 9223372036854775808 else 0) + x * 4503599627370496 + r := ⟨_, rfl⟩
          rw [← hZ] at q2 HF
          simp only [Bool.false_eq_true, if_true, if_false] at q2
          have hc' : ¬ (a : Int) < 4503599627370496 := by omega
          have hl' : (a : Int) < 9007199254740992 := by omega
          have hx' : x ≤ 1071 := by omega
          have hr' : (r : Int) < 4503599627370496 := by omega
          clear HS hr hZ hc hlt hx hpos HI HP HA
          go_wp2
          go_ret
          exact ⟨by rw [HF.out]; rfl, rfl⟩
end Go.Proofs.YtcclepohmhdpbaaGreatDoor

/- A SET THAT IS NOT WRONG IS IN ITS BOUNDS. -/
namespace Go.Proofs.YtcclepohmhdpbaaGreatDoor
set_option linter.all false
open Go.RowKit Go.Deep

namespace Bn
theorem okM_of {m : Mult} (h : Pl.wrong m = 0) : okM m := by
  unfold Pl.wrong at h
  split at h
  · cases h
  · rename_i h1
    split at h
    · cases h
    · split at h
      · cases h
      · rename_i h3
        have h1' : Pl.many m = false := by simpa using h1
        have h3' : m.any Pl.wideL = false := by simpa using h3
        obtain ⟨a, b⟩ := many_bd h1'
        have c : Pl.nP m ≤ 100 := by
          unfold Pl.many at h1'
          simp at h1'
          omega
        refine ⟨by omega, fun l hl => ⟨?_, fun r hr => ⟨?_, fun p hp => ?_⟩⟩⟩
        · have : l.length ≤ Pl.nR m := le_sum_of (List.mem_map_of_mem hl)
          omega
        · have e1 : r.length ≤ Pl.nPl l := le_sum_of (List.mem_map_of_mem hr)
          have e2 : Pl.nPl l ≤ Pl.nP m := le_sum_of (List.mem_map_of_mem hl)
          omega
        · have e1 : Pl.wideL l = false := by
            have := List.any_eq_false.1 h3' l hl
            simpa using this
          have e2 : Pl.wideR r = false := by
            have := List.any_eq_false.1 e1 r hr
            simpa using this
          have e3 : Pl.wideP p = false := by
            have := List.any_eq_false.1 e2 p hp
            simpa using this
          simp [Pl.wideP, Pl.farC] at e3
          omega
end Bn
end Go.Proofs.YtcclepohmhdpbaaGreatDoor

/- THE PROGRAM's BYTES, WRITTEN: heads, rings, sets. -/
namespace Go.Proofs.YtcclepohmhdpbaaGreatDoor
set_option linter.all false
open Go.RowKit Go.Deep

namespace Bn
theorem dbl_lt {u : Int} (h1 : -32768 ≤ u) (h2 : u ≤ 32768) : dbl u < 18446744073709551616 := by
  unfold dbl
  split
  · omega
  · rename_i h0
    have hsh : ∀ f k : Nat, k < 9007199254740992 → k * 2 ^ sh f k < 9007199254740992 := by
      intro f
      induction f with
      | zero => intro k hk; simpa [sh] using hk
      | succ f ih =>
        intro k hk
        unfold sh
        split
        · rename_i hc
          have := ih (2 * k) (by omega)
          rw [Nat.pow_succ, ← Nat.mul_assoc, Nat.mul_comm _ 2, ← Nat.mul_assoc]
          exact this
        · simpa using hk
    have := hsh 60 u.natAbs (by omega)
    unfold dblOf
    generalize u.natAbs * 2 ^ sh 60 u.natAbs = y at *
    split <;> omega
end Bn

set_option maxRecDepth 100000 in
set_option maxHeartbeats 2000000 in
theorem whead_any (kind n : Nat) (o : Int) (lit : Bool) (w : World) (hlit : lit = (o == 1)) (ho : o = 0 ∨ o = 1) (hk : kind < 100) (hn : n ≤ 1048576) :
    Calls Tryz.prog 144 #[.int .u64 kind, .int .i64 n, .int .i64 o] w fun e w' => e = .returned (.string (bs (Bn.geom lit kind n))) ∧ Up w w' := by
  have HL := hide hlit
  obtain ⟨b, hb, hb2⟩ : ∃ b : Nat, o = (b : Int) ∧ b = (if lit = true then 1 else 0) := by
    rcases ho with rfl | rfl
    · exact ⟨0, rfl, by rw [hlit]; rfl⟩
    · exact ⟨1, rfl, by rw [hlit]; rfl⟩
  have hb3 : b ≤ 1 := by rw [hb2]; split <;> omega
  subst hb
  have HG := hide (show Bn.geom lit kind n = Bn.put lit 1 b ++ Bn.put lit 4 kind ++ Bn.put lit 4 n by rw [hb2]; rfl)
  have l1 := Bn.put_length lit 1 b
  have l2 := Bn.put_length lit 4 kind
  have l3 := Bn.put_length lit 4 n
  clear hlit ho hb2
  obtain ⟨P1, h1⟩ : ∃ P, P = Bn.put lit 1 b := ⟨_, rfl⟩
  obtain ⟨P2, h2⟩ : ∃ P, P = Bn.put lit 4 kind := ⟨_, rfl⟩
  obtain ⟨P3, h3⟩ : ∃ P, P = Bn.put lit 4 n := ⟨_, rfl⟩
  rw [← h1] at HG l1
  rw [← h2] at HG l2
  rw [← h3] at HG l3
  have H1 := hide h1
  have H2 := hide h2
  have H3 := hide h3
  clear h1 h2 h3
  have z1 := bs_size P1
  have z2 := bs_size P2
  have z3 := bs_size P3
  have z4 := bs_size (P1 ++ P2)
  have q1 := bs_append P1 P2
  have q2 := bs_append (P1 ++ P2) P3
  simp only [List.append_assoc, List.length_append] at q1 q2 z4
  go_enter Tryz.func144, Tryz.ntmps144
  go_wp2_with fail
  refine (wnum_any 1 b b lit _ HL.out (by omega) (by omega)).mono ?_
  rintro e w1 ⟨rfl, u1⟩
  replace u1 := hide u1
  rw [← H1.out]
  go_wp2_with fail
  refine (wnum_any 4 kind b lit _ HL.out (by omega) (by omega)).mono ?_
  rintro e w2 ⟨rfl, u2⟩
  replace u2 := hide u2
  rw [← H2.out]
  go_wp2_with fail
  refine (wnum_any 4 n b lit _ HL.out (by omega) (by omega)).mono ?_
  rintro e w3 ⟨rfl, u3⟩
  replace u3 := hide u3
  rw [← H3.out]
  go_wp2
  go_ret
  rw [HG.out]
  exact ⟨by simp, (u1.out.trans u2.out).trans u3.out⟩

set_option maxRecDepth 100000 in
set_option maxHeartbeats 4000000 in
theorem wring_any (v : Value) (r : Ring) (o : Int) (lit : Bool) (w : World) (hlit : lit = (o == 1)) (hv : Rd1 w v r) (hi : ∀ p ∈ r, (-32768 ≤ p.1 ∧ p.1 ≤ 32768) ∧ -32768 ≤ p.2 ∧ p.2 ≤ 32768) (hl : r.length ≤ 6000) :
    Calls Tryz.prog 145 #[v, .int .i64 o] w fun e w' => e = .returned (.string (bs (Bn.ringT lit r))) ∧ Up w w' := by
  have HL := hide hlit
  have HI := hide hi
  clear hi hlit
  obtain ⟨ao, cap, rfl, hm⟩ := hv
  have HM := hide hm
  clear hm
  go_enter Tryz.func145, Tryz.ntmps145
  go_wp2_with fail
  refine (wnum_any 4 r.length o lit _ HL.out (by omega) (by omega)).mono ?_
  rintro e w1 ⟨rfl, u1⟩
  replace u1 := hide u1
  have hz := Bn.put_length lit 4 r.length
  obtain ⟨P0, h0⟩ : ∃ P, P = Bn.put lit 4 r.length := ⟨_, rfl⟩
  rw [← h0] at hz ⊢
  have HT : Hid (Bn.ringT lit r = P0 ++ (r.drop 0).flatMap (Bn.ptT lit)) := by rw [h0]; exact rfl
  clear h0
  go_wp2_with fail
  go_loopw [5, 17] (fun s i wr => ∃ (n : Nat) (t : List UInt8), n ≤ r.length ∧ i = .int .i64 n ∧ s = .string (bs t) ∧ t.length ≤ 4 + n * 16 ∧ Hid (Bn.ringT lit r = t ++ (r.drop n).flatMap (Bn.ptT lit)) ∧ Hid (Up w wr)) (fun _ i _ => r.length - (intOf i).toNat)
  case atStart => exact ⟨0, P0, by omega, rfl, rfl, by omega, HT, u1⟩
  case round =>
    obtain ⟨n, t, hn, rfl, rfl, htl, HR, HU⟩ := hrel
    by_cases hlt : n < r.length
    · obtain ⟨p, hp⟩ := Pl.some_of_lt hlt
      obtain ⟨b, rfl, hc0, hc1⟩ := HM.out n p hp
      have k0 := HU.out.cell hc0
      have k1 := HU.out.cell hc1
      obtain ⟨⟨x1, x2⟩, y1, y2⟩ := HI.out p (Pl.mem_of_some hp)
      have HS := hide (Bn.fm_step (Bn.ptT lit) hp)
      clear hc0 hc1
      obtain ⟨px, py⟩ := p
      dsimp only at *
      have dx := hide (Bn.dbl_lt x1 x2)
      have dy := hide (Bn.dbl_lt y1 y2)
      have lX := Bn.put_length lit 8 (Bn.dbl px)
      have lY := Bn.put_length lit 8 (Bn.dbl py)
      obtain ⟨X, hX⟩ : ∃ X, X = Bn.put lit 8 (Bn.dbl px) := ⟨_, rfl⟩
      obtain ⟨Y, hY⟩ : ∃ Y, Y = Bn.put lit 8 (Bn.dbl py) := ⟨_, rfl⟩
      rw [← hX] at lX
      rw [← hY] at lY
      have HS' : Hid (Bn.ringT lit r = (t ++ X ++ Y) ++ (r.drop (n + 1)).flatMap (Bn.ptT lit)) := by
        rw [HR.out, HS.out, hX, hY]
        simp [Hid, Bn.ptT]
      have HX := hide hX
      have HY := hide hY
      clear HS HR hX hY hp
      have z0 := bs_size t
      have z1 := bs_size X
      have z2 := bs_size Y
      have z3 := bs_size (t ++ X)
      have q1 := bs_append t X
      have q2 := bs_append (t ++ X) Y
      simp only [List.append_assoc, List.length_append] at q1 q2 z3 HS'
      have HR := hide (VRow.new wr [.int .i64 px, .int .i64 py] 32)
      go_wp2_with fail
      refine (wdouble_any px _ x1 x2).mono ?_
      rintro e w2 ⟨rfl, rfl⟩
      go_wp2_with fail
      refine (wnum_any 8 (Bn.dbl px) o lit _ HL.out (by omega) dx.out).mono ?_
      rintro e w3 ⟨rfl, u3⟩
      rw [← HX.out]
      have r1 := VRow.cell (HR.out.of_block (u3.block _ HR.out.lt)) (i := 1) rfl
      replace u3 := hide u3
      go_wp2_with fail
      refine (wdouble_any py _ y1 y2).mono ?_
      rintro e w4 ⟨rfl, rfl⟩
      go_wp2_with fail
      refine (wnum_any 8 (Bn.dbl py) o lit _ HL.out (by omega) dy.out).mono ?_
      rintro e w5 ⟨rfl, u5⟩
      rw [← HY.out]
      replace u5 := hide u5
      go_wp2
      go_roundw
      case rel => exact ⟨n + 1, t ++ X ++ Y, by omega, by go_num, by simp, by simp; omega, by simpa [Hid] using HS'.out, ((HU.out.alloc _).trans u3.out).trans u5.out⟩
      case measure => simp [intOf]; omega
    · have HS : Hid (Bn.ringT lit r = t) := by rw [HR.out, Bn.fm_end _ hlt, List.append_nil]; exact rfl
      clear HR
      go_wp2
      go_ret
      rw [HS.out]
      exact ⟨rfl, HU.out⟩
end Go.Proofs.YtcclepohmhdpbaaGreatDoor
