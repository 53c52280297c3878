/- THE LAW: encoded, as bytes. -/
import Derived.Test.YtcclepohmhdpbaaGreatDoorLaw
import Derived.Test.YtcclepohmhdpbaaGreatDoorBnPut
import Derived.Test.YtcclepohmhdpbaaGreatDoorBnDoc7
namespace Go.Proofs.YtcclepohmhdpbaaGreatDoor
set_option linter.all false
open Go.RowKit Go.Deep

set_option maxRecDepth 100000 in
set_option maxHeartbeats 4000000 in
theorem encoded1_any (o : Int) (lit : Bool) (hlit : lit = (o == 1)) (ho : o = 0 ∨ o = 1) (M : Mult) (hM : Bn.okM M) (w : World) (b : Nat) (d : D3) (xa : Option Addr) (xn xc : Nat) (hs : Set3 w (.pointer (some ⟨b, 0, none⟩)) M b d) (hx : Rd3 w (.slice xa xn xc) M) :
    Calls Tryz.prog 24 #[.agg #[.pointer (some ⟨b, 0, none⟩), .slice xa xn xc], .int .i64 1, .int .i64 o] w fun e w' => e = .returned (.bool true) ∧ Up w w' := by
  have HL := hide hlit
  have HO := hide ho
  have HM := hide hM
  have uA := (Up.refl w).alloc (.cells #[.pointer (some ⟨b, 0, none⟩), .slice xa xn xc] 52)
  have hrow := VRow.new w [.pointer (some ⟨b, 0, none⟩), .slice xa xn xc] 52
  have HE := hide (enc_ok 1 o _ M b d _ (by decide) (hs.up' uA) (by rcases ho with rfl | rfl <;> rfl) (Bn.setT lit M) (fun v hv => write1_any v M o lit _ hlit ho hv hM))
  have HX := hide (hx.up uA)
  have HR := hide hrow
  have HA := hide uA
  have HT := hide (bs_toList (Bn.setT lit M))
  have hlo : Hid ((o == 1) = lit) := hlit.symm
  clear hs hx uA hrow hlit hM
  obtain ⟨T, hT⟩ : ∃ T, T = Bn.setT lit M := ⟨_, rfl⟩
  rw [← hT] at HE HT
  have HTT := hide hT
  clear hT
  rcases ho with rfl | rfl
  · go_enter Tryz.func24, Tryz.ntmps24
    go_wp2_with fail
    refine HE.out.mono ?_
    rintro e w1 ⟨rfl, u1⟩
    have c1 := VRow.cell (HR.out.of_block (u1.block _ HR.out.lt)) (i := 1) rfl
    have HX1 := hide (HX.out.up u1)
    replace u1 := hide u1
    go_wp2_with fail
    refine (dPacked_any _ M _ _ HX1.out HM.out).mono ?_
    rintro e w2 ⟨rfl, u2⟩
    have he : Hid (Bn.setT false M = T) := by rw [HTT.out, ← hlo.out]; exact rfl
    rw [he.out]
    replace u2 := hide u2
    go_wp2
    go_ret
    exact ⟨rfl, (HA.out.trans u1.out).trans u2.out⟩
  · go_enter Tryz.func24, Tryz.ntmps24
    go_wp2_with fail
    refine HE.out.mono ?_
    rintro e w1 ⟨rfl, u1⟩
    have c1 := VRow.cell (HR.out.of_block (u1.block _ HR.out.lt)) (i := 1) rfl
    have HX1 := hide (HX.out.up u1)
    replace u1 := hide u1
    go_wp2_with fail
    refine (dPacked_any _ M _ _ HX1.out HM.out).mono ?_
    rintro e w2 ⟨rfl, u2⟩
    have he : Hid (Bn.setT true M = T) := by rw [HTT.out, ← hlo.out]; exact rfl
    rw [he.out]
    replace u2 := hide u2
    go_wp2
    go_ret
    exact ⟨rfl, (HA.out.trans u1.out).trans u2.out⟩
end Go.Proofs.YtcclepohmhdpbaaGreatDoor
