/- HOW LONG A NUMBER IS: the document's Number. -/
import Derived.Test.YtcclepohmhdpbaaGreatDoorTxF
namespace Go.Proofs.YtcclepohmhdpbaaGreatDoor
set_option linter.all false
open Go.RowKit Go.Deep

theorem ne_facts {l : List UInt8} (h : l ≠ []) : l.isEmpty = false ∧ (l == []) = false ∧ 0 < l.length := by
  cases l with
  | nil => exact absurd rfl h
  | cons c r => simp

set_option maxRecDepth 100000 in
set_option maxHeartbeats 4000000 in
theorem Number_any (l : List UInt8) (p : Bool) (w : World) (hl : l.length ≤ 9223372036854775807) :
    Calls Tryz.prog 118 #[.string (bs l), .bool p] w fun e w' => e = .returned (.int .i64 (Tx.num p l : Nat)) ∧ w' = w := by
  obtain ⟨e0, e1, e2, e3, e4, e5⟩ := bs_tells l
  clear e3 e5
  obtain ⟨n, hn⟩ : ∃ n, n = Tx.sgn p l 0 := ⟨_, rfl⟩
  have hs : n ≤ l.length := by have := Tx.sgn_le p l 0 (Nat.zero_le _); rw [hn]; omega
  have h01 : Hid (n = 1 ∨ n = 0) := by rw [hn]; exact Tx.sgn_01 p l 0
  rw [show Tx.num p l = Tx.num1 p l n from by rw [hn]; rfl]
  have HN : Hid (n = Tx.sgn p l 0) := hn
  clear hn
  go_enter Tryz.func118, Tryz.ntmps118
  go_upto_region 2 with fail
  go_cut [21] (fun s wc => s = .bool (n == 1) ∧ wc = w)
  case first =>
    cases p
    all_goals
      by_cases hne : l = []
      · subst hne
        go_wp2
        go_meet
        case rel => exact ⟨by rw [HN.out]; rfl, rfl⟩
      · obtain ⟨n1, n2, n3⟩ := ne_facts hne
        clear hne
        go_wp2
        all_goals
          go_meet
          case rel =>
            refine ⟨congrArg Value.bool ?_, rfl⟩
            rw [HN.out]
            clear hs e0 e1 e2 e4 h01 HN
            by_cases h45 : Tx.at_ l 0 = 45
            · simp_all [Tx.sgn]
            · by_cases h43 : Tx.at_ l 0 = 43
              · simp_all [Tx.sgn]
              · simp_all [Tx.sgn]
  case rest =>
    obtain ⟨rfl, rfl⟩ := hcut
    go_upto_if 21 with fail
    go_cut [5] (fun s wd => s = .int .i64 (n : Nat) ∧ wd = wc)
    case first =>
      rcases h01.out with hg | hg
      all_goals
        subst hg
        go_wp2
        go_meet
        case rel => exact ⟨rfl, rfl⟩
    case rest =>
      obtain ⟨rfl, rfl⟩ := hcut
      go_wp2_with (go_at_call 152; refine (lead_let _ _ (by simp only [List.length_drop]; omega)).mono ?_; rintro e w' ⟨k, rfl, rfl, hk, hle⟩; rw [List.length_drop] at hle)
      all_goals
        go_ret
        refine ⟨?_, rfl⟩
        clear e0 e1 e2 e4 hs h01 HN
        simp only [Hid, Nat.add_zero, ← Nat.add_assoc, ← Int.add_assoc, Int.not_lt, ← Int.natCast_add, Int.ofNat_le, Int.ofNat_lt] at *
        subst_vars
        try norm_cast at *
        try simp only [← Nat.add_assoc] at *
        show Ending.returned (.int .i64 _) = _
        refine congrArg (fun k : Nat => Ending.returned (.int .i64 (k : Int))) ?_
        simp_all [Tx.num1, Tx.num2, Tx.num3, Tx.at_ge', Tx.sgn] <;> omega
end Go.Proofs.YtcclepohmhdpbaaGreatDoor
