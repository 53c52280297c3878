/- THE PROGRAM's NUMBERS, WRITTEN. -/
import Derived.Test.YtcclepohmhdpbaaGreatDoorStr
import Derived.Test.YtcclepohmhdpbaaGreatDoorShelf
namespace Go.Proofs.YtcclepohmhdpbaaGreatDoor
set_option linter.all false
open Go.RowKit Go.Deep

namespace Tx
def dg (k : Nat) : UInt8 := UInt8.ofNat (48 + k)
/-- n digits of the rest r (of ten thousand), no noughts at the end. -/
def places : Nat → Nat → List UInt8
  | 0, _ => []
  | n + 1, r => if r = 0 then [] else dg (r / 1000) :: places n (r % 1000 * 10)
def part (u : Nat) : List UInt8 := if u = 0 then [] else 46 :: places 4 (u * 625)
theorem places_le : ∀ n r, (places n r).length ≤ n
  | 0, _ => by simp [places]
  | n + 1, r => by
    unfold places
    split
    · simp
    · have := places_le n (r % 1000 * 10)
      simp; omega
end Tx

theorem digit_any (k : Nat) (hk : k < 10) (w : World) :
    Calls Tryz.prog 268 #[.int .i64 (k : Nat)] w fun e w' => e = .returned (.string (bs [Tx.dg k])) ∧ w' = w :=
  (Tryz.strconv_Itoa_small k (by omega) w).mono fun e w' ⟨h1, h2⟩ => ⟨by rw [h1, Lib.decDigits_one hk]; rfl, h2⟩

set_option maxHeartbeats 1000000 in
theorem partText_any (u : Nat) (w : World) (hu : u < 16) :
    Calls Tryz.prog 269 #[.int .i64 (u : Nat)] w fun e w' => e = .returned (.string (bs (Tx.part u))) ∧ w' = w := by
  by_cases h : u = 0
  · subst h
    go_enter Tryz.func269, Tryz.ntmps269
    go_wp2
    go_ret
    exact ⟨rfl, rfl⟩
  · have h' : ((u : Int) == 0) = false := beq_eq_false_iff_ne.2 (by omega)
    have HC := hide (show Tx.part u = [46] ++ Tx.places 4 (u * 625) by simp [Tx.part, h])
    go_enter Tryz.func269, Tryz.ntmps269
    go_wp2
    go_loop [3, 4, 5] (fun s r i => ∃ (n q : Nat) (t : List UInt8), n ≤ 4 ∧ i = .int .i64 n ∧ r = .int .i64 q ∧ s = .string (bs t) ∧ q < 10000 ∧ t.length ≤ 1 + n ∧ Hid (Tx.part u = t ++ Tx.places (4 - n) q)) (fun _ _ i => 4 - (intOf i).toNat)
    case atStart => exact ⟨0, u * 625, [46], by omega, rfl, by simp, rfl, by omega, by simp, HC⟩
    case round =>
      obtain ⟨n, q, t, hn, rfl, rfl, rfl, hq, ht, HP⟩ := hrel
      by_cases h4 : n < 4
      · by_cases hq0 : q = 0
        · have HS : Hid (Tx.part u = t) := by
            have := HP.out
            obtain ⟨j, hj⟩ : ∃ j, 4 - n = j + 1 := ⟨3 - n, by omega⟩
            rw [hj, Tx.places, if_pos hq0, List.append_nil] at this
            exact this
          clear HP
          subst hq0
          go_wp2_with (go_at_call 268; fail)
          go_ret
          exact ⟨by rw [HS.out]; rfl, rfl⟩
        · have HS : Hid (Tx.part u = t ++ [Tx.dg (q / 1000)] ++ Tx.places (4 - (n + 1)) (q % 1000 * 10)) := by
            have := HP.out
            obtain ⟨j, hj⟩ : ∃ j, 4 - n = j + 1 := ⟨3 - n, by omega⟩
            rw [hj, Tx.places, if_neg hq0] at this
            rw [show 4 - (n + 1) = j by omega, List.append_assoc]
            exact this
          clear HP
          have hq0' : ((q : Int) == 0) = false := beq_eq_false_iff_ne.2 (by omega)
          have s1 := bs_size t
          have s2 := bs_size [Tx.dg (q / 1000)]
          have s3 := bs_append t [Tx.dg (q / 1000)]
          go_wp2_with (go_at_call 268; refine (digit_any (q / 1000) (by omega) _).mono ?_; rintro e w' ⟨rfl, rfl⟩)
          go_round
          case rel => exact ⟨n + 1, q % 1000 * 10, t ++ [Tx.dg (q / 1000)], by omega, by go_num, by go_num, rfl, by omega, by simp; omega, HS⟩
          case measure => simp [intOf]; omega
      · obtain rfl : n = 4 := by omega
        have HS : Hid (Tx.part u = t) := by
          have := HP.out
          rw [Nat.sub_self, Tx.places, List.append_nil] at this
          exact this
        clear HP
        go_wp2_with (go_at_call 268; fail)
        go_ret
        exact ⟨by rw [HS.out]; rfl, rfl⟩
theorem up_grow (w : World) (os : Array Obj) : Up w (Go.Sort.grow w os) :=
  ⟨rfl, rfl, rfl, by simp [Go.Sort.grow], fun b hb => by simp [Go.Sort.grow, Array.getElem?_append_left hb]⟩

/-- The table that Itoa reads. -/
def Tab (w : World) : Prop := Lib.TabIs Tryz.prog w "internal/strconv.uint64pow10" .u64 Lib.pow10Tab

theorem itoa_any (k : Nat) (hk : k ≤ 4096) (w : World) (ht : Tab w) :
    Calls Tryz.prog 268 #[.int .i64 (k : Nat)] w fun e w' => e = .returned (.string (bs (Lib.decDigits k))) ∧ Up w w' :=
  (Tryz.strconv_Itoa k (by omega) (by omega) w ht).mono fun e w' ⟨h1, n, os, h2⟩ => ⟨by rw [h1, Lib.itoa_nonneg]; rfl, by rw [h2]; exact ((Up.refl w).drewN n).trans (up_grow _ os)⟩

namespace Tx
def txt (x : Int) : List UInt8 := (if x < 0 then [45] else []) ++ Lib.decDigits (x.natAbs / 16) ++ part (x.natAbs % 16)
theorem part_le (u : Nat) : (part u).length ≤ 5 := by
  unfold part
  split
  · simp
  · have := places_le 4 (u * 625); simp; omega
end Tx

theorem nDigits_le (u : Nat) : Lib.nDigits u ≤ u + 1 := by
  induction u using Nat.strongRecOn with
  | _ u ih =>
    by_cases h : u < 10
    · rw [Lib.nDigits_small h]; omega
    · rw [Lib.nDigits_big h]
      have := ih (u / 10) (by omega)
      omega

set_option maxHeartbeats 1000000 in
theorem Text_any (x : Int) (w : World) (h1 : -32768 ≤ x) (h2 : x ≤ 32768) (ht : Tab w) :
    Calls Tryz.prog 263 #[.int .i64 x] w fun e w' => e = .returned (.string (bs (Tx.txt x))) ∧ Up w w' := by
  have HT := hide ht
  clear ht
  obtain ⟨a, ha⟩ : ∃ a : Nat, a = x.natAbs := ⟨_, rfl⟩
  obtain ⟨D, hD⟩ : ∃ D, D = Lib.decDigits (a / 16) := ⟨_, rfl⟩
  obtain ⟨F, hF⟩ : ∃ F, F = Tx.part (a % 16) := ⟨_, rfl⟩
  have hDl : D.length ≤ 4097 := by rw [hD, Lib.decDigits_length]; have := nDigits_le (a / 16); omega
  have hFl : F.length ≤ 5 := by rw [hF]; exact Tx.part_le _
  have s1 := bs_size D
  have s2 := bs_size F
  have HD := hide hD
  have HF := hide hF
  by_cases hx : x < 0
  · have HX := hide (show Tx.txt x = [45] ++ D ++ F by rw [hD, hF, ha]; simp [Tx.txt, hx])
    obtain rfl : x = -(a : Int) := by omega
    clear hD hF ha
    have s3 : (ByteArray.mk #[45]) ++ bs D = bs (45 :: D) := bs_append [45] D
    have s4 : bs (45 :: D) ++ bs F = bs (45 :: (D ++ F)) := bs_append (45 :: D) F
    have s5 : (bs (45 :: D)).size = D.length + 1 := bs_size (45 :: D)
    go_enter Tryz.func263, Tryz.ntmps263
    go_wp2_with (first
      | (go_at_call 268; refine (itoa_any (a / 16) (by omega) _ HT.out).mono ?_; rintro e w1 ⟨rfl, hu⟩; rw [← HD.out]; replace hu := hide hu)
      | (go_at_call 269; refine (partText_any (a % 16) _ (by omega)).mono ?_; rintro e w2 ⟨rfl, rfl⟩; rw [← HF.out]))
    go_ret
    rw [HX.out]
    exact ⟨rfl, hu.out⟩
  · have HX := hide (show Tx.txt x = D ++ F by rw [hD, hF, ha]; simp [Tx.txt, hx])
    obtain rfl : x = (a : Int) := by omega
    clear hD hF ha
    have s3 : (ByteArray.mk #[]) ++ bs D = bs D := bs_append [] D
    have s3' : ByteArray.empty ++ bs D = bs D := bs_append [] D
    have s4 : bs D ++ bs F = bs (D ++ F) := bs_append D F
    go_enter Tryz.func263, Tryz.ntmps263
    go_wp2_with (first
      | (go_at_call 268; refine (itoa_any (a / 16) (by omega) _ HT.out).mono ?_; rintro e w1 ⟨rfl, hu⟩; rw [← HD.out]; replace hu := hide hu)
      | (go_at_call 269; refine (partText_any (a % 16) _ (by omega)).mono ?_; rintro e w2 ⟨rfl, rfl⟩; rw [← HF.out]))
    go_ret
    rw [HX.out]
    exact ⟨rfl, hu.out⟩
end Go.Proofs.YtcclepohmhdpbaaGreatDoor
