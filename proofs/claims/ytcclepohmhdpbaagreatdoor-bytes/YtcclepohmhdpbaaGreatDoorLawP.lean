/- THE LAW: pointed. -/
import Derived.Test.YtcclepohmhdpbaaGreatDoorLaw
namespace Go.Proofs.YtcclepohmhdpbaaGreatDoor
set_option linter.all false
open Go.RowKit Go.Deep

theorem told_got (M : Mult) (Wb : Nat) (w : World) (psv : Value) (b : Nat) (d : D3) (xa : Option Addr) (xn xc : Nat) (ps : List L2) (h : Got M Wb w psv b d ⟨.slice xa xn xc, ps⟩) :
    Calls Tryz.prog 50 #[.pointer (some ⟨Wb, 0, none⟩), .pointer (some ⟨b, 0, none⟩), .slice xa xn xc] w fun e w' => e = .returned (.bool true) ∧ w'.cell? ⟨Wb, 0, none⟩ = some psv ∧ Fr (· = Wb) w w' := by
  have hrf : RF3 (fun b => b ≠ Wb ∧ nv.ownBlock ≠ some b) w (.slice xa xn xc) M := h.eq ▸ h.lok.rf.keep (Fr.refl (fun _ => False) w) fun x _ hx => ⟨⟨fun e => h.lok.row_ne h.wr (by decide) (by decide) (by decide) (e ▸ hx), fun e => by cases e⟩, fun e => e⟩
  refine (told_gen (fun _ => False) w Wb psv nv nv 0 [] _ M b d xa xn xc h.wr (World.ownsRow_nil _ _ _ _) (by simp) (fun _ e => e.elim) h.set (fun x hx => ⟨h.ne x hx, fun e => by cases e⟩) hrf h.bd (many_of h.ok0) (by simp) (by omega) (by omega)).mono ?_
  rintro e w' ⟨he, ov, O, mk, hts⟩
  refine ⟨he, hts.wrow.c0, hts.fr.mono fun x _ e => ?_⟩
  rcases e with e | e
  · exact e
  · cases e

set_option maxRecDepth 100000 in
set_option maxHeartbeats 4000000 in
theorem pointed_any (M : Mult) (Wb : Nat) (w : World) (psv : Value) (b : Nat) (d : D3) (X : L3) (h : Got M Wb w psv b d X) :
    Calls Tryz.prog 25 #[.pointer (some ⟨Wb, 0, none⟩)] w fun e w' => e = .returned (.bool true) ∧ Fr (· = Wb) w w' := by
  obtain ⟨xv, ps⟩ := X
  obtain ⟨xa, xn, xc, rfl⟩ : ∃ a n c, xv = .slice a n c := own_shape h.lok.row
  obtain ⟨G, cap, rfl, hc⟩ := own_cell h.own (by omega)
  have g0 := hc 0 _ rfl
  have g1 := hc 1 _ rfl
  have c0 := h.wr.c0
  have HG := hide h
  clear h hc
  go_enter Tryz.func25, Tryz.ntmps25
  go_wp2
  have HC0 := hide c0
  have HG0 := hide g0
  have HG1 := hide g1
  clear c0 g0 g1
  go_loopw [3] (fun i wr => ∃ k : Nat, k ≤ 1 ∧ i = .int .i64 k ∧ Hid (wr.cell? ⟨Wb, 0, none⟩ = some (.slice (some ⟨G, 0, none⟩) 1 cap)) ∧ Hid (Fr (· = Wb) w wr) ∧ Hid (k = 0 → wr = w)) (fun i _ => 1 - (intOf i).toNat)
  case atStart => exact ⟨0, by omega, rfl, HC0, Fr.refl _ _, fun _ => rfl⟩
  case round =>
    obtain ⟨k, hk, rfl, H0, HF, HE⟩ := hrel
    rcases (show k = 0 ∨ k = 1 by omega) with rfl | rfl
    · have e := HE.out rfl
      subst e
      have c0 := HC0.out
      have g0 := HG0.out
      have g1 := HG1.out
      go_wp2_with fail
      go_region_with (go_at_call 50; refine (told_got M Wb _ _ b d xa xn xc ps (HG.out.up ((Up.refl _).drew))).mono ?_; rintro e w1 ⟨rfl, d0, df⟩; replace d0 := hide d0; replace df := hide df)
      all_goals
        go_wp2
        go_roundw
        case rel => exact ⟨1, by omega, by go_num, d0, ((Fr.refl (· = Wb) _).drew).trans df.out, fun e => by omega⟩
        case measure => simp [intOf]
    · have c0 := H0.out
      go_wp2
      go_ret
      exact ⟨rfl, HF.out⟩
end Go.Proofs.YtcclepohmhdpbaaGreatDoor
