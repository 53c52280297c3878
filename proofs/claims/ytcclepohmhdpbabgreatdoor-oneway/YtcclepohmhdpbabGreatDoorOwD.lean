import Derived.Test.YtcclepohmhdpbabGreatDoorOwC
import Derived.Test.YtcclepohmhdpbabGreatDoorAppN
namespace Go.Proofs.YtcclepohmhdpbabGreatDoor
set_option linter.all false
open Go.RowKit Go.Deep
set_option maxHeartbeats 2000000 in
theorem lawoneway_any (c : Int) (h1 : -9223372036854775808 ≤ c) (h2 : c ≤ 9223372036854775807) (l : List UInt8) (w : World) (ht : TabD w) :
  Calls Tryz.prog 3 #[.int .i64 c, .string (bs l)] w fun e w' => e = .returned (.bool true) ∧ Up w w' := by
 have HK := hide (kread_any c h1 h2 l w)
 have HT := hide ht
 clear h1 h2 ht
 go_enter Tryz.func3, Tryz.ntmps3
 go_wp2_with fail
 refine HK.out.mono ?_
 rintro e w1 (⟨rfl, u1⟩ | ⟨bd, b, m, d, rfl, hrow, hs, hb, hw, u1⟩)
 ·have HU := hide u1
  clear u1
  go_wp2
  go_ret
  exact ⟨rfl, HU.out⟩
 ·have HR := hide (kcanon_any bd b m d w1 hrow hs hw (HT.out.up u1))
  have HU := hide u1
  clear u1 hrow hs hb hw
  go_wp2_with fail
  refine HR.out.mono ?_
  rintro e w2 ⟨rfl, u2⟩
  have HU2 := hide (HU.out.trans u2)
  clear u2
  go_wp2
  go_ret
  exact ⟨rfl, HU2.out⟩
end Go.Proofs.YtcclepohmhdpbabGreatDoor
