/- THE WALKS OVER TEXTS: bytes, blanks, digits. -/
import Derived.Test.YtcclepohmhdpbaaGreatDoorStr
namespace Go.Proofs.YtcclepohmhdpbaaGreatDoor
set_option linter.all false
open Go.RowKit Go.Deep

set_option maxHeartbeats 400000 in
theorem isBlank_any (x : Int) (w : World) :
    Calls Tryz.prog 110 #[.int .u8 x] w fun e w' => e = .returned (.bool (Tx.blank x)) ∧ w' = w := by
  unfold Tx.blank
  go_enter Tryz.func110, Tryz.ntmps110
  go_wp2
  all_goals
    go_ret
    exact ⟨by simp [*], rfl⟩

set_option maxHeartbeats 400000 in
theorem wisBlank_any (x : Int) (w : World) :
    Calls Tryz.prog 230 #[.int .u8 x] w fun e w' => e = .returned (.bool (Tx.blank x)) ∧ w' = w := by
  unfold Tx.blank
  go_enter Tryz.func230, Tryz.ntmps230
  go_wp2
  all_goals
    go_ret
    exact ⟨by simp [*], rfl⟩

set_option maxHeartbeats 400000 in
theorem isDigit_any (x : Int) (w : World) :
    Calls Tryz.prog 99 #[.int .u8 x] w fun e w' => e = .returned (.bool (Tx.digit x)) ∧ w' = w := by
  unfold Tx.digit
  go_enter Tryz.func99, Tryz.ntmps99
  go_wp2
  all_goals
    go_ret
    refine ⟨?_, rfl⟩
    simp
    try omega

set_option maxHeartbeats 1000000 in
theorem bare_any (l : List UInt8) (w : World) :
    Calls Tryz.prog 70 #[.string (bs l)] w fun e w' => e = .returned (.string (bs (Tx.bare l))) ∧ w' = w := by
  go_enter Tryz.func70, Tryz.ntmps70
  go_wp2
  go_loop [0] (fun s => ∃ t : List UInt8, s = .string (bs t) ∧ Tx.bare l = Tx.bare t) (fun s => lenOf s)
  case atStart => exact ⟨l, rfl, rfl⟩
  case round =>
    obtain ⟨t, rfl, hb⟩ := hrel
    obtain ⟨S, hS, e0, e1, e2, e3, e4, e5⟩ := tells t
    have HB : Hid (Tx.bare l = Tx.bare t) := hb
    rw [hS]
    have E5 : Hid (S = bs t) := e5
    clear hb e3 e5 hS
    cases t with
    | nil =>
      go_wp2_with (go_at_call 110; fail)
      go_ret
      exact ⟨by rw [HB.out, E5.out]; rfl, rfl⟩
    | cons c r =>
      have e6 := Tx.at_zero c r
      by_cases hc : Tx.blank c.toNat = true
      · go_wp2_with (go_at_call 110; refine (isBlank_any c.toNat _).mono ?_; rintro e w' ⟨rfl, rfl⟩; rw [hc])
        go_round
        case rel => exact ⟨r, by simpa using e2 1, by rw [HB.out, Tx.bare_cons, if_pos hc]⟩
        case measure => simp only [lenOf]; simp; simp at e0; omega
      · have hc : Tx.blank c.toNat = false := by simpa using hc
        go_wp2_with (go_at_call 110; refine (isBlank_any c.toNat _).mono ?_; rintro e w' ⟨rfl, rfl⟩; rw [hc])
        go_ret
        exact ⟨by rw [HB.out, Tx.bare_cons, hc, E5.out]; rfl, rfl⟩

set_option maxHeartbeats 1000000 in
theorem lead_any (l : List UInt8) (w : World) (hl : l.length ≤ 9223372036854775807) :
    Calls Tryz.prog 152 #[.string (bs l)] w fun e w' => e = .returned (.int .i64 (Tx.lead l : Nat)) ∧ w' = w := by
  obtain ⟨e0, e1, e2, e3, e4, e5⟩ := bs_tells l
  clear e2 e3 e4 e5
  generalize bs l = S at e0 e1 ⊢
  go_enter Tryz.func152, Tryz.ntmps152
  go_wp2
  go_loop [3] (fun s => ∃ n : Nat, n ≤ l.length ∧ s = .int .i64 n ∧ Tx.lead l = n + Tx.lead (l.drop n)) (fun s => l.length - (intOf s).toNat)
  case atStart => exact ⟨0, Nat.zero_le _, rfl, by simp⟩
  case round =>
    obtain ⟨n, hk, rfl, hb⟩ := hrel
    by_cases hn : n < l.length
    · have HB : Hid (Tx.lead l = _) := Tx.lead_drop hn hb
      clear hb
      by_cases hd : Tx.digit (Tx.at_ l n) = true
      · go_wp2_with (go_at_call 99; refine (isDigit_any _ _).mono ?_; rintro e w' ⟨rfl, rfl⟩; rw [hd])
        go_round
        case rel => exact ⟨n + 1, by omega, by go_num, by rw [HB.out, if_pos hd]⟩
        case measure => simp [intOf]; omega
      · have hd : Tx.digit (Tx.at_ l n) = false := by simpa using hd
        go_wp2_with (go_at_call 99; refine (isDigit_any _ _).mono ?_; rintro e w' ⟨rfl, rfl⟩; rw [hd])
        go_ret
        exact ⟨by rw [HB.out, hd]; rfl, rfl⟩
    · have HB : Hid (Tx.lead l = n) := Tx.lead_end hn hb
      clear hb
      go_wp2_with (go_at_call 99; fail)
      go_ret
      exact ⟨by rw [HB.out]; rfl, rfl⟩

set_option maxHeartbeats 1000000 in
theorem digitsLength_any (l : List UInt8) (w : World) (hl : l.length ≤ 9223372036854775807) :
    Calls Tryz.prog 261 #[.string (bs l)] w fun e w' => e = .returned (.int .i64 (Tx.lead l : Nat)) ∧ w' = w := by
  obtain ⟨e0, e1, e2, e3, e4, e5⟩ := bs_tells l
  clear e2 e3 e4 e5
  generalize bs l = S at e0 e1 ⊢
  go_enter Tryz.func261, Tryz.ntmps261
  go_wp2
  go_loop [3] (fun s => ∃ n : Nat, n ≤ l.length ∧ s = .int .i64 n ∧ Tx.lead l = n + Tx.lead (l.drop n)) (fun s => l.length - (intOf s).toNat)
  case atStart => exact ⟨0, Nat.zero_le _, rfl, by simp⟩
  case round =>
    obtain ⟨n, hk, rfl, hb⟩ := hrel
    by_cases hn : n < l.length
    · have HB : Hid (Tx.lead l = _) := Tx.lead_drop hn hb
      clear hb
      by_cases h1 : 48 ≤ Tx.at_ l n
      · by_cases h2 : Tx.at_ l n ≤ 57
        · have hd : Hid (Tx.digit (Tx.at_ l n) = true) := by simp [Hid, Tx.digit, h1, h2]
          go_wp2
          go_round
          case rel => exact ⟨n + 1, by omega, by go_num, by rw [HB.out, if_pos hd.out]⟩
          case measure => simp [intOf]; omega
        · have hd : Hid (Tx.digit (Tx.at_ l n) = false) := by simp [Hid, Tx.digit, h1, h2]
          go_wp2
          go_ret
          exact ⟨by rw [HB.out, hd.out]; rfl, rfl⟩
      · have hd : Hid (Tx.digit (Tx.at_ l n) = false) := by simp [Hid, Tx.digit, h1]
        go_wp2
        go_ret
        exact ⟨by rw [HB.out, hd.out]; rfl, rfl⟩
    · have HB : Hid (Tx.lead l = n) := Tx.lead_end hn hb
      clear hb
      go_wp2
      go_ret
      exact ⟨by rw [HB.out]; rfl, rfl⟩
end Go.Proofs.YtcclepohmhdpbaaGreatDoor
