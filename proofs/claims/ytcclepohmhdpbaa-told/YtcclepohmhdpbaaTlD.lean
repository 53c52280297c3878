/- Told: the cells of list(), pick. -/
import Derived.Test.YtcclepohmhdpbaaTlC
import Derived.Test.YtcclepohmhdpbaaRnD
namespace Go.Proofs.Ytcclepohmhdpbaa
set_option linter.all false
open Go.RowKit Go.Deep
namespace Tl
theorem flat4 {α β : Type} (f0 f1 f2 f3 : α → β) (l : List α) (i : Nat) (x : α) (h : l[i]? = some x) :
    (l.flatMap fun w => [f0 w, f1 w, f2 w, f3 w])[i * 4]? = some (f0 x) ∧ (l.flatMap fun w => [f0 w, f1 w, f2 w, f3 w])[i * 4 + 1]? = some (f1 x) ∧ (l.flatMap fun w => [f0 w, f1 w, f2 w, f3 w])[i * 4 + 2]? = some (f2 x) ∧ (l.flatMap fun w => [f0 w, f1 w, f2 w, f3 w])[i * 4 + 3]? = some (f3 x) := by
  induction l generalizing i with
  | nil => simp at h
  | cons a l ih =>
    cases i with
    | zero => simp at h; subst h; simp
    | succ i =>
      have := ih i (by simpa using h)
      rw [show (i + 1) * 4 = i * 4 + 4 by omega]
      simpa [List.flatMap_cons] using this
theorem len : tab.length = 47 := by decide
end Tl

set_option maxRecDepth 100000 in
theorem pick47_any (c : Int) (h1 : -9223372036854775808 ≤ c) (h2 : c ≤ 9223372036854775807) (w : World) :
    Calls Try.prog 6 #[.int .i64 c, .int .i64 47] w fun e w' => ∃ i : Nat, e = .returned (.int .i64 i) ∧ i < 47 ∧ w' = w := by
  by_cases h0 : c < 0
  · have e1 : wrap64 (c + 1) = c + 1 := by unfold wrap64; omega
    have e2 : wrap64 (-(c + 1)) = -(c + 1) := by unfold wrap64; omega
    go_enter Try.func6, Try.ntmps6
    go_wp2
    go_ret
    have hx : (-((c + 1).tmod 47)) = (-(c + 1)) % 47 := by rw [← Int.neg_tmod, Int.tmod_eq_emod_of_nonneg (by omega)]
    refine ⟨((-(c + 1)) % 47).toNat, ?_, by omega, rfl⟩
    rw [Int.toNat_of_nonneg (by omega)]
    rw [← hx]; first | rfl | (rw [hx]; rfl)
  · go_enter Try.func6, Try.ntmps6
    go_wp2
    go_ret
    refine ⟨(c % 47).toNat, ?_, by omega, rfl⟩
    rw [Int.toNat_of_nonneg (by omega)]
    first | rfl | rw [Int.tmod_eq_emod_of_nonneg (by omega)]
end Go.Proofs.Ytcclepohmhdpbaa
