/- THE WALKS: (*World).stands. -/
import Derived.Test.YtcclepohmhdpbaaGreatDoorWalkJ
namespace Go.Proofs.YtcclepohmhdpbaaGreatDoor
set_option linter.all false
open Go.RowKit Go.Deep

set_option maxRecDepth 100000 in
set_option maxHeartbeats 4000000 in
theorem wstands_any (F : Nat → Prop) (w : World) (Wb : Nat) (psv lv outv : Value) (mk : Int) (O : List OG) (hW : WR w Wb psv lv outv mk) (hown : w.ownsRow 0 98 6 outv O.length (cellsO O)) (hO : ∀ o ∈ O, HSo F w o) (hb : O.length ≤ 1073741824) :
    Calls Tryz.prog 44 #[.pointer (some ⟨Wb, 0, none⟩)] w fun e w' => e = .returned (.bool true) ∧ Dr w w' := by
  obtain ⟨ao, cap, rfl⟩ := own_len hown
  have H2 := hide hW.c2
  have hown' := hide hown
  have hO' := hide hO
  clear hW hown hO
  go_enter Tryz.func44, Tryz.ntmps44
  go_wp2
  go_loopw [3] (fun i wr => ∃ k : Nat, k ≤ O.length ∧ i = .int .i64 k ∧ Dr w wr) (fun i _ => O.length - (intOf i).toNat)
  case atStart => exact ⟨0, Nat.zero_le _, rfl, Dr.refl _⟩
  case round =>
    obtain ⟨k, hk, rfl, hdr⟩ := hrel
    have hdr' := hide hdr
    have c2 := hdr.up.cell H2.out
    by_cases hlt : k < O.length
    · obtain ⟨o, ho⟩ := Pl.some_of_lt hlt
      obtain ⟨g, cap', e, hc⟩ := own_cell hown'.out (by omega)
      cases e
      obtain ⟨R, P, n, hs⟩ := hO'.out o (Pl.mem_of_some ho)
      have hs' := hide (hs.keep (Fr.of_up (S := fun _ => False) hdr.up) (fun b _ hb => ⟨hb, fun h => h⟩))
      have k0 := hide (hdr.up.cell (hc _ _ (cellsO_at O k o 0 _ ho rfl)))
      have k1 := hide (hdr.up.cell (hc _ _ (cellsO_at O k o 1 _ ho rfl)))
      have k2 := hide (hdr.up.cell (hc _ _ (cellsO_at O k o 2 _ ho rfl)))
      have k3 := hide (hdr.up.cell (hc _ _ (cellsO_at O k o 3 _ ho rfl)))
      have k4 := hide (hdr.up.cell (hc _ _ (cellsO_at O k o 4 _ ho rfl)))
      have k5 := hide (hdr.up.cell (hc _ _ (cellsO_at O k o 5 _ ho rfl)))
      clear hdr hs hc ho
      go_wp2_with (go_at_call 69; refine (hstands_any F _ g (k * 6) o.sv o.pv o.rv o.rmv o.pmv o.sm R P n hs'.out k0.out k1.out k2.out k3.out k4.out k5.out).mono ?_; rintro e w1 ⟨rfl, hd1⟩; replace hd1 := hide hd1)
      go_roundw
      case rel => exact ⟨k + 1, by omega, by go_num, hdr'.out.trans hd1.out⟩
      case measure => simp [intOf]; omega
    · have : k = O.length := by omega
      subst this
      clear hdr
      go_wp2
      go_ret
      exact ⟨rfl, hdr'.out⟩

end Go.Proofs.YtcclepohmhdpbaaGreatDoor
