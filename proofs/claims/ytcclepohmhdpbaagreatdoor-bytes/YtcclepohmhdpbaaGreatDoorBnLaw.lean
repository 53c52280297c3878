/- THE LAW: decoded, at one format. -/
import Derived.Test.YtcclepohmhdpbaaGreatDoorLaw
import Derived.Test.YtcclepohmhdpbaaGreatDoorBnDoc5
namespace Go.Proofs.YtcclepohmhdpbaaGreatDoor
set_option linter.all false
open Go.RowKit Go.Deep

set_option maxRecDepth 100000 in
set_option maxHeartbeats 4000000 in
theorem decoded1_any (l : List UInt8) (w : World) (Wb : Nat) (hW : WR w Wb nv nv nv 0) (hb : l.length ≤ 1048576) :
    Calls Tryz.prog 23 #[.pointer (some ⟨Wb, 0, none⟩), .int .i64 1, .string (bs l)] w (DecPost (Bn.got l) Wb w) := by
  have e0 := bs_size l
  have HW := hide hW
  have hWw := hide (VRow.lt hW)
  clear hW
  by_cases hlong : 6000 < l.length
  · have HD := hide (dec_long 1 l w (by decide) hlong hb)
    go_enter Tryz.func23, Tryz.ntmps23
    go_wp2_with (go_at_call 38; refine HD.out.mono ?_; rintro e w1 ⟨rfl, u1⟩; replace u1 := hide u1)
    go_ret
    exact ⟨rfl, .inl ⟨VRow.of_block HW.out (u1.out.block _ hWw.out), u1.out⟩⟩
  · have hl : l.length ≤ 6000 := by omega
    have HRP := hide (fun w => read1_any l w hl)
    have HRD := hide (fun w => dBytes_any l w hl)
    have HBD := hide ((Bn.got_ok hl).bd)
    obtain ⟨E, hE⟩ : ∃ E, E = Bn.err l := ⟨_, rfl⟩
    obtain ⟨M, hM⟩ : ∃ M, M = Bn.got l := ⟨_, rfl⟩
    rw [← hE, ← hM] at HRP HRD
    rw [← hM] at HBD ⊢
    clear hE hM
    by_cases hE0 : E = 0
    · subst hE0
      by_cases hw0 : Pl.wrong M = 0
      · have HD := hide (dec_ok 1 l w (by decide) hl M HBD.out hw0 HRP.out)
        have HW0 := hide hw0
        clear HRP hw0
        go_enter Tryz.func23, Tryz.ntmps23
        go_wp2_with fail
        refine HD.out.mono ?_
        rintro e w1 ⟨p, b, d, rfl, hs, hnew, u1⟩
        obtain ⟨rfl, -⟩ := id hs
        replace hs := hide hs
        replace hnew := hide hnew
        replace u1 := hide u1
        go_wp2_with fail
        refine (HRD.out _).mono ?_
        rintro e w2 ⟨⟨xv, ps⟩, rfl, hx, hm, u2⟩
        obtain ⟨xa, xn, xc, rfl⟩ : ∃ a n c, xv = .slice a n c := own_shape hx.row
        replace hm := hide (hm rfl)
        replace hx := hide hx
        replace u2 := hide u2
        go_wp2_with fail
        refine (wrong_any _ M _ (hm.out ▸ hx.out.rd) HBD.out).mono ?_
        rintro e w3 ⟨rfl, q, rfl⟩
        rw [HW0.out]
        have HU : Hid (Up w (w2.drewN q)) := ((u1.out.trans u2.out).drewN q)
        have HW3 : Hid (WR (w2.drewN q) Wb nv nv nv 0) := VRow.of_block HW.out (HU.out.block _ hWw.out)
        have HK := hide (keep_gen (w2.drewN q) Wb nv nv nv 0 [] HW3.out (World.ownsRow_nil _ _ _ _) (by simp) b xa xn xc)
        go_wp2_with fail
        refine HK.out.mono ?_
        rintro e w4 ⟨rfl, psv, hwr, hown, hfr, -⟩
        replace hwr := hide hwr
        replace hown := hide hown
        replace hfr := hide hfr
        go_wp2
        go_ret
        refine ⟨rfl, .inr ⟨psv, b, d, ⟨.slice xa xn xc, ps⟩, ?_⟩⟩
        have hfr' : Fr (· = Wb) (w2.drewN q) w4 := hfr.out.mono fun x _ e => by
          rcases e with e | e
          · exact e
          · cases e
        have hne : ∀ x ∈ b :: d.bl, x ≠ Wb := fun x hx e => by
          have h1 := hnew.out x hx
          have h2 := hWw.out
          omega
        have u12 : Up w1 (w2.drewN q) := u2.out.drewN q
        refine ⟨⟨hwr.out, hown.out, (hs.out.up' u12).fr hfr' hne, ?_, hm.out, HW0.out, hne, HBD.out⟩, (Fr.of_up HU.out).trans hfr'⟩
        exact (hx.out.up ((Up.refl w2).drewN q)).fr hfr' fun b hb e => (hx.out.up ((Up.refl w2).drewN q)).row_ne HW3.out (by decide) (by decide) (by decide) (e ▸ hb)
      · have HD := hide (dec_form 1 l w (by decide) hl M HBD.out hw0 HRP.out)
        have HW0 : (Pl.wrong M != 0) = true := bne_iff_ne.2 hw0
        obtain ⟨wm, hwm⟩ : ∃ x, x = Pl.wrong M := ⟨_, rfl⟩
        rw [← hwm] at HD HW0
        have HWM := hide hwm
        clear HRP hw0 hwm
        go_enter Tryz.func23, Tryz.ntmps23
        go_wp2_with fail
        refine HD.out.mono ?_
        rintro e w1 ⟨rfl, u1⟩
        replace u1 := hide u1
        go_wp2_with fail
        refine (HRD.out _).mono ?_
        rintro e w2 ⟨⟨xv, ps⟩, rfl, hx, hm, u2⟩
        obtain ⟨xa, xn, xc, rfl⟩ : ∃ a n c, xv = .slice a n c := own_shape hx.row
        replace hm := hide (hm rfl)
        replace hx := hide hx
        replace u2 := hide u2
        go_wp2_with fail
        refine (wrong_any _ M _ (hm.out ▸ hx.out.rd) HBD.out).mono ?_
        rintro e w3 ⟨rfl, q, rfl⟩
        rw [← HWM.out]
        have HU : Hid (Up w (w2.drewN q)) := ((u1.out.trans u2.out).drewN q)
        go_wp2
        go_ret
        exact ⟨rfl, .inl ⟨VRow.of_block HW.out (HU.out.block _ hWw.out), HU.out⟩⟩
    · have HD := hide (dec_bad 1 l w (by decide) hl E M hE0 HRP.out)
      have hE1 : (E == 0) = false := beq_eq_false_iff_ne.2 hE0
      have hE2 : (E != 0) = true := bne_iff_ne.2 hE0
      clear HRP hE0
      go_enter Tryz.func23, Tryz.ntmps23
      go_wp2_with fail
      refine HD.out.mono ?_
      rintro e w1 ⟨rfl, u1⟩
      replace u1 := hide u1
      go_wp2_with fail
      refine (HRD.out _).mono ?_
      rintro e w2 ⟨⟨xv, ps⟩, rfl, hx, hm, u2⟩
      obtain ⟨xa, xn, xc, rfl⟩ : ∃ a n c, xv = .slice a n c := own_shape hx.row
      have HU : Hid (Up w w2) := u1.out.trans u2
      clear hx hm u2
      go_wp2
      go_ret
      exact ⟨rfl, .inl ⟨VRow.of_block HW.out (HU.out.block _ hWw.out), HU.out⟩⟩
end Go.Proofs.YtcclepohmhdpbaaGreatDoor
