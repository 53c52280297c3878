import Derived.Test.YtcclepohmhdpbabGreatDoorClK
namespace Go.Proofs.YtcclepohmhdpbabGreatDoor
set_option linter.all false
open Go.RowKit Go.Deep
structure SetR (w : World) (v : Value) (m : Mult) (b : Nat) (u : Value) : Prop where
 ptr : v = .pointer (some ⟨b, 0, none⟩)
 cell : VRow w b 62 [u]
 rd : Rd3 w u m
theorem SetR.up {w w' : World} {v : Value} {m : Mult} {b : Nat} {u : Value} (h : SetR w v m b u) (k : Up w w') : SetR w' v m b u := ⟨h.ptr, h.cell.up k, h.rd.up k⟩
theorem Set3.r {w : World} {v : Value} {m : Mult} {b : Nat} {d : D3} (h : Set3 w v m b d) : SetR w v m b d.v := ⟨h.ptr, h.cell, by have := h.ok.rd; rw [h.pts] at this; exact this⟩
set_option maxHeartbeats 1000000 in
theorem validate_any (v : Value) (m : Mult) (w : World) (b : Nat) (u : Value) (hs : SetR w v m b u) (hz : Sz m) :
  Calls Tryz.prog 17 #[v] w fun e w' => e = .returned (.int .i64 (Vd.least m)) ∧ Up w w' := by
 have HZ := hide hz
 have HR := hide hs.rd
 obtain ⟨rfl, hc, hr⟩ := hs
 obtain ⟨ao, cap, rfl, -⟩ := hr
 have c0 := hc.cell (i := 0) rfl
 clear hc hz
 go_enter Tryz.func17, Tryz.ntmps17
 go_wp2_with (go_at_call 33; refine (least_any _ m _ HR.out HZ.out).mono ?_; rintro e w2 ⟨rfl, hz2⟩; replace hz2 := hide hz2)
 go_ret
 exact ⟨rfl, hz2.out⟩
set_option maxHeartbeats 1000000 in
theorem isValid_any (v : Value) (m : Mult) (w : World) (b : Nat) (u : Value) (hs : SetR w v m b u) (hz : Sz m) :
  Calls Tryz.prog 31 #[v] w fun e w' => e = .returned (.bool (decide (Vd.least m = 0))) ∧ Up w w' := by
 have HZ := hide hz
 have HR := hide hs.rd
 obtain ⟨rfl, hc, hr⟩ := hs
 obtain ⟨ao, cap, rfl, -⟩ := hr
 have c0 := hc.cell (i := 0) rfl
 clear hc hz
 by_cases h : Vd.least m = 0
 ·have H := hide h
  clear h
  go_enter Tryz.func31, Tryz.ntmps31
  go_wp2_with (go_at_call 33; refine (least_any _ m _ HR.out HZ.out).mono ?_; rintro e w2 ⟨rfl, hz2⟩; rw [H.out]; replace hz2 := hide hz2)
  go_ret
  exact ⟨ret_b (by rw [H.out]; rfl), hz2.out⟩
 ·have H := hide h
  have h' := beq_eq_false_iff_ne.2 h
  go_enter Tryz.func31, Tryz.ntmps31
  go_wp2_with (go_at_call 33; refine (least_any _ m _ HR.out HZ.out).mono ?_; rintro e w2 ⟨rfl, hz2⟩; replace hz2 := hide hz2)
  go_ret
  exact ⟨ret_b (decide_eq_false H.out).symm, hz2.out⟩
theorem isValid_is {v : Value} {m : Mult} {w : World} {b : Nat} {u : Value} {B : Bool} (h : decide (Vd.least m = 0) = B) (hs : SetR w v m b u) (hz : Sz m) :
  Calls Tryz.prog 31 #[v] w fun e w' => e = .returned (.bool B) ∧ Up w w' := by
 have := isValid_any v m w b u hs hz; rwa [h] at this
end Go.Proofs.YtcclepohmhdpbabGreatDoor
