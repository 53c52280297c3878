/- WHAT (*World).told DOES, a round: no walk. -/
import Derived.Test.YtcclepohmhdpbabWalkI
import Derived.Test.YtcclepohmhdpbabWalkH
import Derived.Test.YtcclepohmhdpbabWalkE
namespace Go.Proofs.Ytcclepohmhdpbab
set_option linter.all false
open Go.RowKit Go.Deep

theorem Fr.then {S T : Nat → Prop} {a b c : World} (h : Fr S a b) (k : Fr T b c) (hT : ∀ x, x < a.heap.size → T x → S x) : Fr S a c :=
  ⟨k.os.trans h.os, k.tape.trans h.tape, k.output.trans h.output, Nat.le_trans h.size k.size, fun i hi hs => (k.block i (Nat.lt_of_lt_of_le hi h.size) (fun e => hs (hT i hi e))).trans (h.block i hi hs)⟩
theorem Fr.of_grown {w w' : World} {row : Option Nat} (h : w.grownBy w' row) : Fr (fun b => row = some b) w w' := ⟨h.os, h.tape, h.output, h.size, fun b hb hs => h.block b hb (fun e => hs e.symm)⟩
theorem Fr.of_set (w : World) (a : Addr) (v : Value) : Fr (fun b => b = a.block) w (w.setCell a v) := Fr.setCell (S := fun b => b = a.block) (Fr.refl _ w) rfl v

end Go.Proofs.Ytcclepohmhdpbab
