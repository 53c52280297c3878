/- READ AGAIN: what is the same. -/
import Derived.Test.YtcclepohmhdpbaaWalkE
namespace Go.Proofs.Ytcclepohmhdpbaa
set_option linter.all false
open Go.RowKit Go.Deep

set_option maxHeartbeats 2000000 in
theorem pick3_any (c : Int) (h1 : -9223372036854775808 ≤ c) (h2 : c ≤ 9223372036854775807) (w : World) :
    Calls Try.prog 6 #[.int .i64 c, .int .i64 3] w fun e w' => ∃ f : Int, e = .returned (.int .i64 f) ∧ (f = 0 ∨ f = 1 ∨ f = 2) ∧ w' = w := by
  by_cases h0 : c < 0
  · have e1 : wrap64 (c + 1) = c + 1 := by unfold wrap64; omega
    have e2 : wrap64 (-(c + 1)) = -(c + 1) := by unfold wrap64; omega
    obtain ⟨d, hd⟩ : ∃ d, d = -(c + 1) := ⟨_, rfl⟩
    have hd0 : 0 ≤ d := by omega
    go_enter Try.func6, Try.ntmps6
    go_wp2
    go_ret
    refine ⟨_, rfl, ?_, rfl⟩
    rw [← Int.neg_tmod, Int.tmod_eq_emod_of_nonneg (by omega)]
    omega
  · go_enter Try.func6, Try.ntmps6
    go_wp2
    go_ret
    refine ⟨_, rfl, ?_, rfl⟩
    omega
end Go.Proofs.Ytcclepohmhdpbaa
