import Derived.Test.YtcclepohmhdpbabGreatDoorAppN
import Derived.Test.YtcclepohmhdpbabGreatDoorApI
import Derived.Test.YtcclepohmhdpbabGreatDoorClK
import Derived.Test.YtcclepohmhdpbabGreatDoorGlC
import Derived.Test.YtcclepohmhdpbabGreatDoorPnF
import Derived.Test.YtcclepohmhdpbabGreatDoorGiA
import Derived.Test.YtcclepohmhdpbabGreatDoorVdI
import Derived.Test.YtcclepohmhdpbabGreatDoorClC
import Derived.Test.YtcclepohmhdpbabGreatDoorClJ
import Derived.Test.YtcclepohmhdpbabGreatDoorTxF
import Derived.Test.YtcclepohmhdpbabGreatDoorClL
import Derived.Test.YtcclepohmhdpbabGreatDoorHsI
namespace Go.Proofs.YtcclepohmhdpbabGreatDoor
set_option linter.all false
open Go.RowKit Go.Deep
set_option maxHeartbeats 1000000 in
theorem points_c (v : Value) (m : Mult) (w : World) (b : Nat) (u : Value) (hs : SetR w v m b u) (hb : Pl.Bd m) :
  Calls Tryz.prog 20 #[v] w fun e w' => ∃ d' : D3, e = .returned d'.v ∧ OK3 w' d' ∧ d'.m = m ∧ d'.bare ∧ d'.bl.Nodup ∧ (∀ b ∈ d'.bl, w.heap.size ≤ b) ∧ Up w w' := by
 obtain ⟨rfl, hc, hr⟩ := hs
 have HR := hide hr
 obtain ⟨ao, cap, rfl, -⟩ := hr
 have hb' := hide hb
 have hc' := VRow.cell hc (i := 0) rfl
 clear hc hb
 go_enter Tryz.func20, Tryz.ntmps20
 go_wp2_with (go_at_call 36; refine (copy_any _ m _ ?_ ?_).mono ?_; exact HR.out; exact hb'.out; rintro e w2 ⟨d', rfl, h⟩; replace h := hide h)
 go_ret
 exact ⟨d', rfl, h.out⟩
theorem bd_sz {m : Mult} (hz : Sz m) : Pl.Bd m := ⟨hz.len, hz.poly, fun l hl r hr => by have := hz.ring l hl r hr; omega⟩
theorem fz_all {m : Mult} (h0 : Pl.wrong m = 0) (hl : Vd.least m = 0) : FZ m := by
 have hz := sz_of h0
 have hv := Vd.vr_of (Vd.good_of h0) (Vd.least0 hl).1
 exact ⟨hz.len, hz.poly, fun l hl r hr => ⟨hz.ring l hl r hr, hz.cd l hl r hr, by have := (hv l hl r hr).corners_three; omega⟩⟩
namespace Vd
end Vd
def heads (l : Poly) : List Pnt := (l.map List.dropLast).flatten
end Go.Proofs.YtcclepohmhdpbabGreatDoor
namespace Go.Proofs.YtcclepohmhdpbabGreatDoor
set_option linter.all false
namespace Vd
end Vd
open Go.RowKit Go.Deep
def badK (m : Mult) (k : Nat) : Bool := if k = 5 then Vd.overlap m else Vd.badC k m
def partB (n : Int) : Bool := decide (-1048576 ≤ n) && decide (n ≤ 1048576)
theorem isPart_any (n : Int) (w : World) : Calls Tryz.prog 51 #[.int .i64 n] w fun e w' => e = .returned (.bool (partB n)) ∧ w' = w := by
 by_cases h1 : -1048576 ≤ n
 ·by_cases h2 : n ≤ 1048576
  ·have HR : Hid (partB n = true) := by unfold partB; simp [h1, h2, Hid]
   go_enter Tryz.func51, Tryz.ntmps51
   go_wp2
   go_ret
   exact ⟨ret_b HR.out.symm, rfl⟩
  ·have HR : Hid (partB n = false) := by unfold partB; simp [h2, Hid]
   go_enter Tryz.func51, Tryz.ntmps51
   go_wp2
   go_ret
   exact ⟨ret_b HR.out.symm, rfl⟩
 ·have HR : Hid (partB n = false) := by unfold partB; simp [h1, Hid]
  go_enter Tryz.func51, Tryz.ntmps51
  go_wp2
  go_ret
  exact ⟨ret_b HR.out.symm, rfl⟩
def goodH (a b d : Int) : Prop := partB a = true ∧ partB b = true ∧ partB d = true ∧ 1 ≤ d
set_option maxRecDepth 8000 in
set_option maxHeartbeats 4000000 in
theorem has_ok (v : Value) (m : Mult) (a b d : Int) (w : World) (g : Nat) (u : Value) (hs : SetR w v m g u) (hz : Sz m) (h : goodH a b d) (hv : Vd.least m = 0) :
  Calls Tryz.prog 39 #[v, .int .i64 a, .int .i64 b, .int .i64 d] w fun e w' => e = .returned (.tuple #[.bool (Vd.inSet m ((a, b), d)), .int .i64 0]) ∧ Up w w' := by
 have HK := hide (isValid_is (decide_eq_true hv) hs hz)
 have HS := hide hs
 have HZ := hide hz
 have hsp : Hid (Vd.Sp ((a, b), d)) := by
  obtain ⟨ha, hb, hd, h1⟩ := h
  unfold partB at ha hb hd
  simp only [Bool.and_eq_true, decide_eq_true_eq] at ha hb hd
  show Vd.Sp _
  unfold Vd.Sp
  simp only
  omega
 obtain ⟨ha, hb, hd, h1⟩ := h
 have HA := hide ha
 have HB := hide hb
 have HD := hide hd
 have h1' : ¬ d < 1 := by omega
 obtain ⟨rfl, -, -⟩ := hs
 obtain ⟨ua, uc, rfl, -⟩ := HS.out.rd
 clear ha hb hd h1 hz hv
 go_enter Tryz.func39, Tryz.ntmps39
 go_wp2_with (first | (go_at_call 51; refine (isPart_any _ _).mono ?_; rintro e w1 ⟨rfl, rfl⟩; (first | rw [HA.out] | rw [HB.out] | rw [HD.out])) | (go_at_call 31; refine HK.out.mono ?_; rintro e w2 ⟨rfl, hu⟩; replace hu := hide hu))
 have HU2 : Hid (Up w1 (w2.alloc (.cells #[.int .i64 a, .int .i64 b, .int .i64 d] 65))) := hu.out.alloc _
 have R0 := hide (new_row (w := w2) (o := .cells #[.int .i64 a, .int .i64 b, .int .i64 d] 65) (vs := [.int .i64 a, .int .i64 b, .int .i64 d]) rfl)
 have s0 := ((HS.out.up HU2.out).cell).gr (i := 0) rfl
 have q0 := R0.out.gr (i := 0) rfl
 have q1 := R0.out.gr (i := 1) rfl
 have q2 := R0.out.gr (i := 2) rfl
 have HC : Hid (∀ g : Gr (w2.alloc (.cells #[.int .i64 a, .int .i64 b, .int .i64 d] 65)), Calls Tryz.prog 52 #[.slice ua m.length uc, .agg #[.int .i64 a, .int .i64 b, .int .i64 d]] g.v fun e w' => e = .returned (.bool (Vd.inSet m ((a, b), d))) ∧ Up g.v w') := fun g =>
  inSet_any _ m ((a, b), d) _ ((HS.out.rd.up HU2.out).up g.up) HZ.out hsp.out
 obtain ⟨X, hX⟩ : ∃ X, Vd.inSet m ((a, b), d) = X := ⟨_, rfl⟩
 rw [hX] at HC
 have HX := hide hX
 clear hX
 refine wp_region_up (by kernel_rfl) (by kernel_rfl) ?_
 repeat (first | go_big_quiet_step ((go_at_call 52; exact Calls.up_of (HC.out _))))
 refine wpQuiet_nil ?_
 rintro w3 ⟨⟨_, u3⟩, rfl⟩
 have HU3 := hide (HU2.out.trans u3)
 clear u3 s0 q0 q1 q2 HC
 go_wp2
 go_ret2
 refine ⟨?_, HU3.out⟩
 rw [HX.out]
 rfl
end Go.Proofs.YtcclepohmhdpbabGreatDoor
