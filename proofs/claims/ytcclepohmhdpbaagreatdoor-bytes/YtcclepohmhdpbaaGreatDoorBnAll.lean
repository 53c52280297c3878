/- THE LAW: Bytes. -/
import Derived.Test.YtcclepohmhdpbaaGreatDoorBnLaw
import Derived.Test.YtcclepohmhdpbaaGreatDoorBnEnc
import Derived.Test.YtcclepohmhdpbaaGreatDoorLawP
import Derived.Test.YtcclepohmhdpbaaGreatDoorOkM
namespace Go.Proofs.YtcclepohmhdpbaaGreatDoor
set_option linter.all false
open Go.RowKit Go.Deep


set_option maxRecDepth 100000 in
set_option maxHeartbeats 4000000 in
theorem lread1_any (l : List UInt8) (w : World) :
    Calls Tryz.prog 15 #[.int .i64 1, .string (bs l)] w fun e w' => e = .returned (.bool true) ∧ Up w w' := by
  have e0 := bs_size l
  by_cases hb : 1048576 < l.length
  · go_enter Tryz.func15, Tryz.ntmps15
    go_wp2
    go_ret
    exact ⟨rfl, Up.refl _⟩
  · have hnew : WR (w.alloc (.cells #[nv, nv, nv, .int .i64 0] 38)) w.heap.size nv nv nv 0 := VRow.new w [nv, nv, nv, .int .i64 0] _
    have HD := hide (decoded1_any l _ w.heap.size hnew (by omega))
    have HA := hide ((Up.refl w).alloc (.cells #[nv, nv, nv, .int .i64 0] 38))
    clear hnew
    go_enter Tryz.func15, Tryz.ntmps15
    go_wp2_with fail
    refine HD.out.mono ?_
    rintro e w1 ⟨rfl, hd⟩
    rcases hd with ⟨hW, u1⟩ | ⟨psv, b, d, ⟨xv, ps⟩, hg, hf⟩
    · have c0 := hW.c0
      have HU : Hid (Up w w1) := HA.out.trans u1
      clear hW u1
      go_wp2
      go_ret
      exact ⟨rfl, HU.out⟩
    · obtain ⟨xa, xn, xc, rfl⟩ : ∃ a n c, xv = .slice a n c := own_shape hg.lok.row
      obtain ⟨G, cap, rfl, hc⟩ := own_cell hg.own (by omega)
      have hok := hide (Bn.okM_of hg.ok0)
      have c0 := hg.wr.c0
      have g0 := hc 0 _ rfl
      have g1 := hc 1 _ rfl
      have HG := hide hg
      have HC := hide hc
      have HF : Hid (Fr (· = w.heap.size) w w1) := (Fr.of_up HA.out).trans hf
      clear hg hf hc
      go_wp2_with fail
      refine (encoded1_any 0 false rfl (.inl rfl) _ hok.out _ b d xa xn xc HG.out.set (HG.out.eq ▸ HG.out.lok.rd)).mono ?_
      rintro e w2 ⟨rfl, u2⟩
      have HG2 := hide (HG.out.up u2)
      have d0 := u2.cell c0
      have k0 := u2.cell g0
      have k1 := u2.cell g1
      replace u2 := hide u2
      clear c0 g0 g1
      go_wp2_with fail
      refine (encoded1_any 1 true rfl (.inr rfl) _ hok.out _ b d xa xn xc HG2.out.set (HG2.out.eq ▸ HG2.out.lok.rd)).mono ?_
      rintro e w3 ⟨rfl, u3⟩
      have HG3 := hide (HG2.out.up u3)
      replace u3 := hide u3
      clear d0 k0 k1
      go_wp2_with fail
      refine (pointed_any _ _ _ _ b d _ HG3.out).mono ?_
      rintro e w4 ⟨rfl, f4⟩
      replace f4 := hide f4
      go_wp2
      go_ret
      refine ⟨rfl, (((HF.out.trans (Fr.of_up u2.out)).trans (Fr.of_up u3.out)).trans f4.out).up fun x hx e => by omega⟩

set_option maxHeartbeats 1000000 in
theorem bytes_any (l : List UInt8) (w : World) :
    Calls Tryz.prog 5 #[.string (bs l)] w fun e w' => e = .returned (.bool true) ∧ Up w w' := by
  go_enter Tryz.func5, Tryz.ntmps5
  go_wp2_with (go_at_call 15; refine (lread1_any l _).mono ?_; rintro e w1 ⟨rfl, u1⟩; replace u1 := hide u1)
  go_ret
  exact ⟨rfl, u1.out⟩
end Go.Proofs.YtcclepohmhdpbaaGreatDoor
