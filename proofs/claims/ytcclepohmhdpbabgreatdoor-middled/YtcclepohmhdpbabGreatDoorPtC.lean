import Derived.Test.YtcclepohmhdpbabGreatDoorAppN
import Derived.Test.YtcclepohmhdpbabGreatDoorApI
import Derived.Test.YtcclepohmhdpbabGreatDoorClK
import Derived.Test.YtcclepohmhdpbabGreatDoorGlD
namespace Go.Proofs.YtcclepohmhdpbabGreatDoor
set_option linter.all false
open Go.RowKit Go.Deep
set_option maxHeartbeats 1000000 in
theorem points_c (v : Value) (m : Mult) (w : World) (b : Nat) (u : Value) (hs : SetR w v m b u) (hb : Pl.Bd m) :
  Calls Tryz.prog 20 #[v] w fun e w' => ∃ d' : D3, e = .returned d'.v ∧ OK3 w' d' ∧ d'.m = m ∧ d'.bare ∧ d'.bl.Nodup ∧ (∀ b ∈ d'.bl, w.heap.size ≤ b) ∧ Up w w' := by
 obtain ⟨rfl, hc, hr⟩ := hs
 have HR := hide hr
 obtain ⟨ao, cap, rfl, -⟩ := hr
 have hb' := hide hb
 have hc' := VRow.cell hc (i := 0) rfl
 clear hc hb
 go_enter Tryz.func20, Tryz.ntmps20
 go_wp2_with (go_at_call 36; refine (copy_any _ m _ ?_ ?_).mono ?_; exact HR.out; exact hb'.out; rintro e w2 ⟨d', rfl, h⟩; replace h := hide h)
 go_ret
 exact ⟨d', rfl, h.out⟩
theorem bd_sz {m : Mult} (hz : Sz m) : Pl.Bd m := ⟨hz.len, hz.poly, fun l hl r hr => by have := hz.ring l hl r hr; omega⟩
theorem fz_all {m : Mult} (h0 : Pl.wrong m = 0) (hl : Vd.least m = 0) : FZ m := by
 have hz := sz_of h0
 have hv := Vd.vr_of (Vd.good_of h0) (Vd.least0 hl).1
 exact ⟨hz.len, hz.poly, fun l hl r hr => ⟨hz.ring l hl r hr, hz.cd l hl r hr, by have := (hv l hl r hr).corners_three; omega⟩⟩
end Go.Proofs.YtcclepohmhdpbabGreatDoor
