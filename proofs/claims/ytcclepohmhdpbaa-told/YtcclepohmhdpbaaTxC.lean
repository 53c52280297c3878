/- HOW LONG A NUMBER IS: the document's Number. -/
import Derived.Test.YtcclepohmhdpbaaTxE
namespace Go.Proofs.Ytcclepohmhdpbaa
set_option linter.all false
open Go.RowKit Go.Deep

theorem ne_facts {l : List UInt8} (h : l ≠ []) : l.isEmpty = false ∧ (l == []) = false ∧ 0 < l.length := by
  cases l with
  | nil => exact absurd rfl h
  | cons c r => simp

end Go.Proofs.Ytcclepohmhdpbaa
