import Derived.Test.YtcclepohmhdpbabGreatDoorTzD
import Derived.Test.YtcclepohmhdpbabGreatDoorAppN
namespace Go.Proofs.YtcclepohmhdpbabGreatDoor
set_option linter.all false
open Go.RowKit Go.Deep
set_option maxHeartbeats 2000000 in
theorem lawturned_any (c : Int) (h1 : -9223372036854775808 ≤ c) (h2 : c ≤ 9223372036854775807) (l : List UInt8) (A B : Int) (hA1 : -9223372036854775808 ≤ A) (hA2 : A ≤ 9223372036854775807) (hB1 : -9223372036854775808 ≤ B) (hB2 : B ≤ 9223372036854775807) (w : World) (ht : TabD w) :
    Calls Tryz.prog 4 #[.int .i64 c, .string (bs l), .int .i64 A, .int .i64 B] w fun e w' => e = .returned (.bool true) ∧ Up w w' := by
  have HK := hide (kread_any c h1 h2 l w)
  have HT := hide ht
  clear h1 h2 ht
  go_enter Tryz.func4, Tryz.ntmps4
  go_wp2_with fail
  refine HK.out.mono ?_
  rintro e w1 (⟨rfl, u1⟩ | ⟨bd, b, m, d, rfl, hrow, hs, hb, hw, u1⟩)
  · have HU := hide u1
    clear u1
    go_wp2
    go_ret
    exact ⟨rfl, HU.out⟩
  · have HR := hide (turned_any bd b m d A B hA1 hA2 hB1 hB2 w1 hrow hs hw (HT.out.up u1))
    have HU := hide u1
    clear u1 hrow hs hb hw hA1 hA2 hB1 hB2
    go_wp2_with fail
    refine HR.out.mono ?_
    rintro e w2 ⟨rfl, u2⟩
    have HU2 := hide (HU.out.trans u2)
    clear u2
    go_wp2
    go_ret
    exact ⟨rfl, HU2.out⟩
end Go.Proofs.YtcclepohmhdpbabGreatDoor
