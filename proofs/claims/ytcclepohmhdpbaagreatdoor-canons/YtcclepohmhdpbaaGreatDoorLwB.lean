/- THE SCRIPTS' LAWS: a set that is asked when there is none. -/
import Derived.Test.YtcclepohmhdpbaaGreatDoorLwA
import Derived.Deep.DeepCutAuto
namespace Go.Proofs.YtcclepohmhdpbaaGreatDoor
set_option linter.all false
open Go.RowKit Go.Deep
attribute [local go_sem ↓] Go.wp_at_zero Go.wp_at_succ

set_option maxRecDepth 100000 in
set_option maxHeartbeats 4000000 in
theorem step_none {w0 : World} (kd : Int) (h1 : (kd == 1) = false) (h2 : (kd == 2) = false) (h3 : (kd == 3) = false) (h4 : (kd == 4) = false) (h5 : (kd == 5) = false) (h6 : (kd == 6) = false) (w : World) (Wb : Nat) (psv outv : Value) (mk : Int) (O : List OG) (L : L3) (n : Nat) (h : Inv w0 w Wb psv outv mk [] O L n) (a b c : Int) (s : ByteArray) :
    Calls Tryz.prog 43 #[.pointer (some ⟨Wb, 0, none⟩), .agg #[.int .i64 kd, .int .i64 a, .int .i64 b, .int .i64 c, .string s]] w fun e w' => e = .returned (.bool true) ∧ Inv w0 w' Wb psv outv mk [] O L (n + 1) := by
  obtain ⟨ao, cap, hv⟩ := own_len h.ops
  have hv' := hide hv
  have h' := hide h
  clear h hv
  go_enter Tryz.func43, Tryz.ntmps43
  go_wp2_with (go_at_call 67; refine (owner_other _ Wb kd a b c s h2 h3 h4 h5).mono ?_; rintro e w1 ⟨rfl, hu1⟩; have hkd := hu1.cell ((VRow.new w [.int .i64 kd, .int .i64 a, .int .i64 b, .int .i64 c, .string s] 46).cell (i := 0) rfl); have hI := h'.out.up (((Up.refl w).alloc _).trans hu1); have c0 := hI.wrow.c0; rw [hv'.out] at c0; replace hI := hide hI; clear hu1)
  go_ret
  exact ⟨rfl, hI.out.more⟩
end Go.Proofs.YtcclepohmhdpbaaGreatDoor
