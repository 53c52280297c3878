import Derived.Test.YtcclepohmhdpbabGreatDoorHsB
namespace Go.Proofs.YtcclepohmhdpbabGreatDoor
set_option linter.all false
open Go.RowKit Go.Deep
set_option maxHeartbeats 2000000 in
theorem alike_c (p q : Value) (m : Mult) (w : World) (b b2 : Nat) (u u2 : Value) (hs : SetR w p m b u) (hs2 : SetR w q m b2 u2) (hb : Pl.Bd m) :
  Calls Tryz.prog 18 #[p, q] w fun e w' => e = .returned (.bool true) ∧ Up w w' := by
 have HS := hide hs
 have HS2 := hide hs2
 have HB := hide hb
 obtain ⟨rfl, -⟩ := hs
 obtain ⟨rfl, -⟩ := hs2
 clear hb
 go_enter Tryz.func18, Tryz.ntmps18
 go_wp2_with fail
 refine (points_c _ m _ b u HS.out HB.out).mono ?_
 rintro e w1 ⟨d3, rfl, hd3, hm3, -, -, -, u1⟩
 have hv3 : d3.v = .slice (some ⟨d3.b, 0, none⟩) d3.ps.length (d3.ps.length + d3.s.length) := rfl
 rw [hv3]
 have HS21 := hide (HS2.out.up u1)
 have HR3 : Hid (Rd3 w1 (.slice (some ⟨d3.b, 0, none⟩) d3.ps.length (d3.ps.length + d3.s.length)) m) := by
  have := hd3.rd
  rw [hm3, hv3] at this
  exact this
 have HU1 := hide u1
 clear hd3 hm3 u1 hv3
 go_wp2_with fail
 refine (points_c _ m _ b2 u2 HS21.out HB.out).mono ?_
 rintro e w2 ⟨d4, rfl, hd4, hm4, -, -, -, u2⟩
 have hv4 : d4.v = .slice (some ⟨d4.b, 0, none⟩) d4.ps.length (d4.ps.length + d4.s.length) := rfl
 rw [hv4]
 have HR4 : Hid (Rd3 w2 (.slice (some ⟨d4.b, 0, none⟩) d4.ps.length (d4.ps.length + d4.s.length)) m) := by
  have := hd4.rd
  rw [hm4, hv4] at this
  exact this
 have HR32 := hide (HR3.out.up u2)
 have HU2 := hide u2
 clear hd4 hm4 u2 hv4
 go_wp2_with fail
 refine (ksame_any _ _ m _ HR32.out HR4.out HB.out).mono ?_
 rintro e w3 ⟨rfl, n, hw3⟩
 have HU3 : Hid (Up w w3) := by rw [hw3]; exact ((HU1.out.trans HU2.out).drewN n)
 clear hw3
 go_wp2
 go_ret
 exact ⟨rfl, HU3.out⟩
end Go.Proofs.YtcclepohmhdpbabGreatDoor
