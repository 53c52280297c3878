import Derived.Test.YtcclepohmhdpbaaGreatDoorLaw
import Derived.Test.YtcclepohmhdpbaaGreatDoorTxL
import Derived.Test.YtcclepohmhdpbaaGreatDoorTyB
import Derived.Test.YtcclepohmhdpbaaGreatDoorBnUnits
import Derived.Test.YtcclepohmhdpbaaGreatDoorTwLaw
/- THE LAW: encoded, as texts. -/
namespace Go.Proofs.YtcclepohmhdpbaaGreatDoor
set_option linter.all false
open Go.RowKit Go.Deep

set_option maxRecDepth 100000 in
set_option maxHeartbeats 4000000 in
theorem encoded0_any (M : Mult) (hM : Bn.okM M) (w : World) (b : Nat) (d : D3) (xa : Option Addr) (xn xc : Nat) (hs : Set3 w (.pointer (some ⟨b, 0, none⟩)) M b d) (hx : Rd3 w (.slice xa xn xc) M) (ht : Tab w) :
    Calls Tryz.prog 24 #[.agg #[.pointer (some ⟨b, 0, none⟩), .slice xa xn xc], .int .i64 0, .int .i64 0] w fun e w' => e = .returned (.bool true) ∧ Up w w' := by
  have HM := hide hM
  have uA := (Up.refl w).alloc (.cells #[.pointer (some ⟨b, 0, none⟩), .slice xa xn xc] 52)
  have hrow := VRow.new w [.pointer (some ⟨b, 0, none⟩), .slice xa xn xc] 52
  have HE := hide (enc_ok 0 0 _ M b d _ (by decide) (hs.up' uA) rfl (Mk.setW M) (fun v hv => write0_any v M _ hv hM (ht.up uA)))
  have HX := hide (hx.up uA)
  have HR := hide hrow
  have HA := hide uA
  have HT := hide (bs_toList (Mk.setW M))
  clear hs hx uA hrow hM ht
  obtain ⟨T, hT⟩ : ∃ T, T = Mk.setW M := ⟨_, rfl⟩
  rw [← hT] at HE HT
  have HTT := hide hT
  clear hT
  go_enter Tryz.func24, Tryz.ntmps24
  go_wp2_with fail
  refine HE.out.mono ?_
  rintro e w1 ⟨rfl, u1⟩
  have c1 := VRow.cell (HR.out.of_block (u1.block _ HR.out.lt)) (i := 1) rfl
  have HX1 := hide (HX.out.up u1)
  replace u1 := hide u1
  go_wp2_with fail
  refine (dWritten_text _ M _ HX1.out HM.out).mono ?_
  rintro e w2 ⟨rfl, u2⟩
  rw [← HTT.out]
  replace u2 := hide u2
  go_wp2
  go_ret
  exact ⟨rfl, (HA.out.trans u1.out).trans u2.out⟩

set_option maxRecDepth 100000 in
set_option maxHeartbeats 4000000 in
theorem encoded01_any (M : Mult) (w : World) (b : Nat) (d : D3) (xa : Option Addr) (xn xc : Nat) (hs : Set3 w (.pointer (some ⟨b, 0, none⟩)) M b d) :
    Calls Tryz.prog 24 #[.agg #[.pointer (some ⟨b, 0, none⟩), .slice xa xn xc], .int .i64 0, .int .i64 1] w fun e w' => e = .returned (.bool true) ∧ Up w w' := by
  have uA := (Up.refl w).alloc (.cells #[.pointer (some ⟨b, 0, none⟩), .slice xa xn xc] 52)
  have HE := hide (enc_arg 0 1 _ M b d _ (by decide) (hs.up' uA) rfl)
  have HA := hide uA
  clear hs uA
  go_enter Tryz.func24, Tryz.ntmps24
  go_wp2_with fail
  refine HE.out.mono ?_
  rintro e w1 ⟨rfl, u1⟩
  replace u1 := hide u1
  go_wp2
  go_ret
  exact ⟨rfl, HA.out.trans u1.out⟩
end Go.Proofs.YtcclepohmhdpbaaGreatDoor

/- THE LAW: pointed. -/
namespace Go.Proofs.YtcclepohmhdpbaaGreatDoor
set_option linter.all false
open Go.RowKit Go.Deep

theorem told_got (M : Mult) (Wb : Nat) (w : World) (psv : Value) (b : Nat) (d : D3) (xa : Option Addr) (xn xc : Nat) (ps : List L2) (h : Got M Wb w psv b d ⟨.slice xa xn xc, ps⟩) :
    Calls Tryz.prog 50 #[.pointer (some ⟨Wb, 0, none⟩), .pointer (some ⟨b, 0, none⟩), .slice xa xn xc] w fun e w' => e = .returned (.bool true) ∧ w'.cell? ⟨Wb, 0, none⟩ = some psv ∧ Fr (· = Wb) w w' := by
  have hrf : RF3 (fun b => b ≠ Wb ∧ nv.ownBlock ≠ some b) w (.slice xa xn xc) M := h.eq ▸ h.lok.rf.keep (Fr.refl (fun _ => False) w) fun x _ hx => ⟨⟨fun e => h.lok.row_ne h.wr (by decide) (by decide) (by decide) (e ▸ hx), fun e => by cases e⟩, fun e => e⟩
  refine (told_gen (fun _ => False) w Wb psv nv nv 0 [] _ M b d xa xn xc h.wr (World.ownsRow_nil _ _ _ _) (by simp) (fun _ e => e.elim) h.set (fun x hx => ⟨h.ne x hx, fun e => by cases e⟩) hrf h.bd (many_of h.ok0) (by simp) (by omega) (by omega)).mono ?_
  rintro e w' ⟨he, ov, O, mk, hts⟩
  refine ⟨he, hts.wrow.c0, hts.fr.mono fun x _ e => ?_⟩
  rcases e with e | e
  · exact e
  · cases e

set_option maxRecDepth 100000 in
set_option maxHeartbeats 4000000 in
theorem pointed_any (M : Mult) (Wb : Nat) (w : World) (psv : Value) (b : Nat) (d : D3) (X : L3) (h : Got M Wb w psv b d X) :
    Calls Tryz.prog 25 #[.pointer (some ⟨Wb, 0, none⟩)] w fun e w' => e = .returned (.bool true) ∧ Fr (· = Wb) w w' := by
  obtain ⟨xv, ps⟩ := X
  obtain ⟨xa, xn, xc, rfl⟩ : ∃ a n c, xv = .slice a n c := own_shape h.lok.row
  obtain ⟨G, cap, rfl, hc⟩ := own_cell h.own (by omega)
  have g0 := hc 0 _ rfl
  have g1 := hc 1 _ rfl
  have c0 := h.wr.c0
  have HG := hide h
  clear h hc
  go_enter Tryz.func25, Tryz.ntmps25
  go_wp2
  have HC0 := hide c0
  have HG0 := hide g0
  have HG1 := hide g1
  clear c0 g0 g1
  go_loopw [3] (fun i wr => ∃ k : Nat, k ≤ 1 ∧ i = .int .i64 k ∧ Hid (wr.cell? ⟨Wb, 0, none⟩ = some (.slice (some ⟨G, 0, none⟩) 1 cap)) ∧ Hid (Fr (· = Wb) w wr) ∧ Hid (k = 0 → wr = w)) (fun i _ => 1 - (intOf i).toNat)
  case atStart => exact ⟨0, by omega, rfl, HC0, Fr.refl _ _, fun _ => rfl⟩
  case round =>
    obtain ⟨k, hk, rfl, H0, HF, HE⟩ := hrel
    rcases (show k = 0 ∨ k = 1 by omega) with rfl | rfl
    · have e := HE.out rfl
      subst e
      have c0 := HC0.out
      have g0 := HG0.out
      have g1 := HG1.out
      go_wp2_with fail
      go_region_with (go_at_call 50; refine (told_got M Wb _ _ b d xa xn xc ps (HG.out.up ((Up.refl _).drew))).mono ?_; rintro e w1 ⟨rfl, d0, df⟩; replace d0 := hide d0; replace df := hide df)
      all_goals
        go_wp2
        go_roundw
        case rel => exact ⟨1, by omega, by go_num, d0, ((Fr.refl (· = Wb) _).drew).trans df.out, fun e => by omega⟩
        case measure => simp [intOf]
    · have c0 := H0.out
      go_wp2
      go_ret
      exact ⟨rfl, HF.out⟩
end Go.Proofs.YtcclepohmhdpbaaGreatDoor

/- A SET THAT IS NOT WRONG IS IN ITS BOUNDS. -/
namespace Go.Proofs.YtcclepohmhdpbaaGreatDoor
set_option linter.all false
open Go.RowKit Go.Deep

namespace Bn
theorem okM_of {m : Mult} (h : Pl.wrong m = 0) : okM m := by
  unfold Pl.wrong at h
  split at h
  · cases h
  · rename_i h1
    split at h
    · cases h
    · split at h
      · cases h
      · rename_i h3
        have h1' : Pl.many m = false := by simpa using h1
        have h3' : m.any Pl.wideL = false := by simpa using h3
        obtain ⟨a, b⟩ := many_bd h1'
        have c : Pl.nP m ≤ 100 := by
          unfold Pl.many at h1'
          simp at h1'
          omega
        refine ⟨by omega, fun l hl => ⟨?_, fun r hr => ⟨?_, fun p hp => ?_⟩⟩⟩
        · have : l.length ≤ Pl.nR m := le_sum_of (List.mem_map_of_mem hl)
          omega
        · have e1 : r.length ≤ Pl.nPl l := le_sum_of (List.mem_map_of_mem hr)
          have e2 : Pl.nPl l ≤ Pl.nP m := le_sum_of (List.mem_map_of_mem hl)
          omega
        · have e1 : Pl.wideL l = false := by
            have := List.any_eq_false.1 h3' l hl
            simpa using this
          have e2 : Pl.wideR r = false := by
            have := List.any_eq_false.1 e1 r hr
            simpa using this
          have e3 : Pl.wideP p = false := by
            have := List.any_eq_false.1 e2 p hp
            simpa using this
          simp [Pl.wideP, Pl.farC] at e3
          omega
end Bn
end Go.Proofs.YtcclepohmhdpbaaGreatDoor

/- THE LAW: Texts. -/
namespace Go.Proofs.YtcclepohmhdpbaaGreatDoor
set_option linter.all false
open Go.RowKit Go.Deep

set_option maxRecDepth 100000 in
set_option maxHeartbeats 4000000 in
theorem lread0_any (l : List UInt8) (w : World) (ht : Tab w) :
    Calls Tryz.prog 15 #[.int .i64 0, .string (bs l)] w fun e w' => e = .returned (.bool true) ∧ Up w w' := by
  have HTB := hide ht
  clear ht
  have e0 := bs_size l
  by_cases hb : 1048576 < l.length
  · go_enter Tryz.func15, Tryz.ntmps15
    go_wp2
    go_ret
    exact ⟨rfl, Up.refl _⟩
  · have hnew : WR (w.alloc (.cells #[nv, nv, nv, .int .i64 0] 38)) w.heap.size nv nv nv 0 := VRow.new w [nv, nv, nv, .int .i64 0] _
    have HD := hide (decoded0_any l _ w.heap.size hnew (by omega))
    have HA := hide ((Up.refl w).alloc (.cells #[nv, nv, nv, .int .i64 0] 38))
    clear hnew
    go_enter Tryz.func15, Tryz.ntmps15
    go_wp2_with fail
    refine HD.out.mono ?_
    rintro e w1 ⟨rfl, hd⟩
    rcases hd with ⟨hW, u1⟩ | ⟨psv, b, d, ⟨xv, ps⟩, hg, hf⟩
    · have c0 := hW.c0
      have HU : Hid (Up w w1) := HA.out.trans u1
      clear hW u1
      go_wp2
      go_ret
      exact ⟨rfl, HU.out⟩
    · obtain ⟨xa, xn, xc, rfl⟩ : ∃ a n c, xv = .slice a n c := own_shape hg.lok.row
      obtain ⟨G, cap, rfl, hc⟩ := own_cell hg.own (by omega)
      have hok := hide (Bn.okM_of hg.ok0)
      have c0 := hg.wr.c0
      have g0 := hc 0 _ rfl
      have g1 := hc 1 _ rfl
      have HG := hide hg
      have HC := hide hc
      have HF : Hid (Fr (· = w.heap.size) w w1) := (Fr.of_up HA.out).trans hf
      have HUW : Hid (Up w w1) := HF.out.up fun x hx e => by omega
      clear hg hf hc
      go_wp2_with fail
      refine (encoded0_any _ hok.out _ b d xa xn xc HG.out.set (HG.out.eq ▸ HG.out.lok.rd) (HTB.out.up HUW.out)).mono ?_
      rintro e w2 ⟨rfl, u2⟩
      have HG2 := hide (HG.out.up u2)
      have d0 := u2.cell c0
      have k0 := u2.cell g0
      have k1 := u2.cell g1
      replace u2 := hide u2
      clear c0 g0 g1
      go_wp2_with fail
      refine (encoded01_any _ _ b d xa xn xc HG2.out.set).mono ?_
      rintro e w3 ⟨rfl, u3⟩
      have HG3 := hide (HG2.out.up u3)
      replace u3 := hide u3
      clear d0 k0 k1
      go_wp2_with fail
      refine (pointed_any _ _ _ _ b d _ HG3.out).mono ?_
      rintro e w4 ⟨rfl, f4⟩
      replace f4 := hide f4
      go_wp2
      go_ret
      refine ⟨rfl, (((HF.out.trans (Fr.of_up u2.out)).trans (Fr.of_up u3.out)).trans f4.out).up fun x hx e => by omega⟩

set_option maxHeartbeats 1000000 in
theorem texts_any (l : List UInt8) (w : World) (ht : Tab w) :
    Calls Tryz.prog 4 #[.string (bs l)] w fun e w' => e = .returned (.bool true) ∧ Up w w' := by
  have HT := hide ht
  clear ht
  go_enter Tryz.func4, Tryz.ntmps4
  go_wp2_with (go_at_call 15; refine (lread0_any l _ HT.out).mono ?_; rintro e w1 ⟨rfl, u1⟩; replace u1 := hide u1)
  go_ret
  exact ⟨rfl, u1.out⟩
end Go.Proofs.YtcclepohmhdpbaaGreatDoor
