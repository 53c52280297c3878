/- THE PROGRAM's TEXTS, READ: sets, Read. -/
import Derived.Test.YtcclepohmhdpbabGreatDoorTwF
import Derived.Test.YtcclepohmhdpbabGreatDoorTvS
import Derived.Test.YtcclepohmhdpbabGreatDoorDec
namespace Go.Proofs.YtcclepohmhdpbabGreatDoor
set_option linter.all false
open Go.RowKit Go.Deep

set_option maxHeartbeats 1000000 in
theorem answer_any (l : List UInt8) (bad off : Bool) (rb : Nat) (xa : Option Addr) (xn xc : Nat) (w : World) (hr : RT w rb l bad off) (hl : l.length ≤ 6000) :
    Calls Tryz.prog 58 #[.pointer (some ⟨rb, 0, none⟩), .slice xa xn xc] w fun e w' => e = .returned (.tuple #[if Tx.fin (Tx.bare l) bad off = 0 then .slice xa xn xc else .slice none 0 0, .int .i64 (Tx.fin (Tx.bare l) bad off)]) ∧ Fr (· = rb) w w' := by
  have HR := hide hr
  clear hr
  have HB := hide (blanks_any l bad off rb w HR.out hl)
  have hbl := Tx.bare_le l
  obtain ⟨t, ht⟩ : ∃ t, t = Tx.bare l := ⟨_, rfl⟩
  rw [← ht] at HB hbl ⊢
  clear ht
  have e0 := bs_size t
  obtain ⟨F, hF⟩ : ∃ F, F = Tx.fin t bad off := ⟨_, rfl⟩
  rw [← hF]
  have HF := hide hF
  clear hF
  cases t with
  | nil =>
    cases bad <;> cases off
    all_goals
      have hv := HF.out
      simp [Tx.fin] at hv
      subst hv
      go_enter Tryz.func58, Tryz.ntmps58
      go_wp2_with fail
      refine HB.out.mono ?_
      rintro e w1 ⟨n, rfl, -, h1, u1⟩
      obtain ⟨c0, c1, c2, -, -, -⟩ := h1.facts
      replace u1 := hide u1
      clear h1
      go_wp2
      go_ret2
      exact ⟨rfl, u1.out⟩
  | cons a s =>
    have e1 : (0 : Int) < ((a :: s).length : Int) := by simp only [List.length_cons]; omega
    have hv := HF.out
    simp [Tx.fin] at hv
    subst hv
    cases bad
    all_goals
      go_enter Tryz.func58, Tryz.ntmps58
      go_wp2_with fail
      refine HB.out.mono ?_
      rintro e w1 ⟨n, rfl, -, h1, u1⟩
      obtain ⟨c0, c1, c2, -, -, -⟩ := h1.facts
      replace u1 := hide u1
      clear h1
      go_wp2
      go_ret2
      exact ⟨rfl, u1.out⟩

def pSetPost (l : List UInt8) (rb : Nat) (w : World) (e : Ending) (w' : World) : Prop :=
  ∃ (x : L3) (l' : List UInt8) (bad off : Bool), e = .returned x.v ∧ x.ok w' ∧ RT w' rb l' bad off ∧ Fr (· = rb) w w' ∧ Wt.set l = (if bad = true then none else some (x.m, l', off)) ∧ l'.length ≤ 6000

set_option maxRecDepth 100000 in
set_option maxHeartbeats 2000000 in
theorem pSet_any (l : List UInt8) (rb : Nat) (w : World) (hr : RT w rb l false false) (hl : l.length ≤ 6000) :
    Calls Tryz.prog 59 #[.pointer (some ⟨rb, 0, none⟩)] w (pSetPost l rb w) := by
  have HR := hide hr
  clear hr
  have HS : Hid (Wt.set l = if (false || !Tx.pre Wt.name (Tx.bare l)) = true then none else Wt.rest (Tx.aft Wt.name (Tx.bare l))) := by
    show _ = _
    unfold Wt.set
    cases Tx.pre Wt.name (Tx.bare l) <;> simp
  have hle : (Tx.aft Wt.name (Tx.bare l)).length ≤ 6000 := Nat.le_trans (Nat.le_trans (Tx.aft_le _ _) (Tx.bare_le l)) hl
  have HN := hide (need_any Wt.name l false false rb w HR.out hl (by decide))
  unfold NeedPost at HN
  obtain ⟨r, hr⟩ : ∃ r, r = Tx.aft Wt.name (Tx.bare l) := ⟨_, rfl⟩
  obtain ⟨b1, hb1⟩ : ∃ b1, b1 = (false || !Tx.pre Wt.name (Tx.bare l)) := ⟨_, rfl⟩
  rw [← hr, ← hb1] at HN HS
  rw [← hr] at hle
  clear hr hb1
  have hbl := Tx.bare_le r
  have hgap := Tx.bare_gap r
  go_enter Tryz.func59, Tryz.ntmps59
  go_wp2_with fail
  refine HN.out.mono ?_
  rintro e w1 ⟨rfl, h1, u1⟩
  replace h1 := hide h1
  replace u1 := hide u1
  go_wp2_with fail
  refine (blanks_any r b1 false rb _ h1.out hle).mono ?_
  rintro e w2 ⟨n, rfl, hn, h2, u2⟩
  rw [← hn] at hgap
  replace h2 := hide h2
  replace u2 := hide u2
  obtain ⟨gp, hgp⟩ : ∃ gp, gp = Wt.gap r := ⟨_, rfl⟩
  rw [← hgp] at hgap
  have HGP := hide hgp
  clear hn hgp
  cases gp
  · have hn0 : ¬ (0 : Int) < (n : Int) := by have := hgap.2 rfl; omega
    have HRS : Hid (Wt.rest r = Wt.polys (Tx.bare r) false) := by
      show _ = _
      unfold Wt.rest
      rw [← HGP.out, Bool.and_false, if_neg (by decide), Wt.polys_bare]
    rw [HRS.out] at HS
    clear hgap
    go_wp2_with fail
    refine (pPls_any (Tx.bare r) b1 false rb _ h2.out (by omega)).mono ?_
    rintro e w3 ⟨x, l3, b3, o3, rfl, hx, h3, u3, p3, hl3⟩
    have HU := hide ((u1.out.trans u2.out).trans u3)
    replace hx := hide hx
    replace h3 := hide h3
    replace p3 := hide p3
    clear u3
    go_wp2
    go_ret
    exact ⟨x, l3, b3, o3, rfl, hx.out, h3.out, HU.out, HS.out.trans p3.out, hl3⟩
  · have hn0 : (0 : Int) < (n : Int) := by
      rcases Nat.eq_zero_or_pos n with h | h
      · have := hgap.1 h; cases this
      · omega
    clear hgap
    have HW := hide (word_any Wt.empty (Tx.bare r) b1 false rb w2 h2.out (by omega) (by decide))
    obtain ⟨P, hP⟩ : ∃ P, P = Tx.pre Wt.empty (Tx.bare r) := ⟨_, rfl⟩
    rw [← hP] at HW
    have HPP := hide hP
    clear hP
    cases P
    · have HA : Hid (Tx.aft Wt.empty (Tx.bare r) = Tx.bare r) := Tx.aft_f HPP.out.symm
      have HRS : Hid (Wt.rest r = Wt.polys (Tx.bare r) false) := by
        show _ = _
        unfold Wt.rest
        rw [← HPP.out, Bool.false_and, if_neg (by decide), Wt.polys_bare]
      rw [HRS.out] at HS
      rw [HA.out] at HW
      go_wp2_with fail
      refine HW.out.mono ?_
      rintro e w4 ⟨rfl, h4, u4⟩
      replace h4 := hide h4
      replace u4 := hide u4
      go_wp2_with fail
      refine (pPls_any (Tx.bare r) b1 false rb _ h4.out (by omega)).mono ?_
      rintro e w3 ⟨x, l3, b3, o3, rfl, hx, h3, u3, p3, hl3⟩
      have HU := hide (((u1.out.trans u2.out).trans u4.out).trans u3)
      replace hx := hide hx
      replace h3 := hide h3
      replace p3 := hide p3
      clear u3
      go_wp2
      go_ret
      exact ⟨x, l3, b3, o3, rfl, hx.out, h3.out, HU.out, HS.out.trans p3.out, hl3⟩
    · have HRS : Hid (Wt.rest r = some ([], Tx.aft Wt.empty (Tx.bare r), false)) := by
        show _ = _
        unfold Wt.rest
        rw [← HPP.out, ← HGP.out]; rfl
      rw [HRS.out] at HS
      go_wp2_with fail
      refine HW.out.mono ?_
      rintro e w4 ⟨rfl, h4, u4⟩
      replace h4 := hide h4
      replace u4 := hide u4
      go_wp2
      go_ret
      exact ⟨nil3, _, b1, false, rfl, nil3_ok _, h4.out, (u1.out.trans u2.out).trans u4.out, HS.out, Nat.le_trans (Tx.aft_le _ _) (by omega)⟩

set_option maxHeartbeats 1000000 in
theorem tRead_any (l : List UInt8) (w : World) (hl : l.length ≤ 6000) :
    Calls Tryz.prog 43 #[.string (bs l)] w (ReadPost (Wt.err l) (Wt.got l) w) := by
  have hnew := VRow.new w [.string (bs l), .bool false, .bool false] 86
  have HS := hide (pSet_any l w.heap.size _ hnew hl)
  clear hnew
  unfold ReadPost
  go_enter Tryz.func43, Tryz.ntmps43
  go_wp2_with fail
  refine HS.out.mono ?_
  rintro e w1 ⟨⟨xv, ps⟩, t, bad, off, rfl, hx, h1, u1, hp, ht⟩
  obtain ⟨xa, xn, xc, rfl⟩ : ∃ a n c, xv = .slice a n c := own_shape hx.row
  have HU : Hid (Up w w1) := ((Fr.of_up ((Up.refl w).alloc _)).then u1 (T := (· = w.heap.size)) (S := fun x => w.heap.size ≤ x) (fun x _ e => by omega)).up (fun x hx => by omega)
  have HE := hide (Wt.err_of hp)
  have HG := hide (fun h => Wt.got_of hp h)
  have HX := hide hx
  have HRT := hide h1
  clear hx h1 u1 hp
  obtain ⟨F, hF⟩ : ∃ F, F = Tx.fin (Tx.bare t) bad off := ⟨_, rfl⟩
  have HA := hide (answer_any t bad off w.heap.size xa xn xc w1 HRT.out ht)
  rw [← hF] at HE HA
  have HFF := hide hF
  clear hF
  go_wp2_with fail
  refine HA.out.mono ?_
  rintro e w2 ⟨rfl, u2⟩
  have HU2 : Hid (Up w w2) := ((Fr.of_up HU.out).then u2 (T := (· = w.heap.size)) (S := fun x => w.heap.size ≤ x) (fun x _ e => by omega)).up (fun x hx => by omega)
  have HX2 : Hid (L3.ok w2 ⟨.slice xa xn xc, ps⟩) := HX.out.fr u2 (fun b hb e => HX.out.row_ne HRT.out (by decide) (by decide) (by decide) (e ▸ hb))
  clear u2
  by_cases h0 : F = 0
  · rw [if_pos h0]
    have HH0 := hide h0
    clear h0
    go_wp2
    go_ret2
    exact ⟨⟨.slice xa xn xc, ps⟩, by rw [HE.out]; rfl, HX2.out, fun _ => (HG.out (Wt.fin_bad (HFF.out.symm.trans HH0.out))).symm, HU2.out⟩
  · rw [if_neg h0]
    have HH0 := hide h0
    clear h0
    go_wp2
    go_ret2
    exact ⟨nil3, by rw [HE.out]; rfl, nil3_ok _, (fun e => absurd (HE.out.symm.trans e) HH0.out), HU2.out⟩

set_option maxHeartbeats 1000000 in
theorem read0_any (l : List UInt8) (w : World) (hl : l.length ≤ 6000) :
    Calls Tryz.prog 30 #[.int .i64 0, .string (bs l)] w (ReadPost (Wt.err l) (Wt.got l) w) := by
  unfold ReadPost
  go_enter Tryz.func30, Tryz.ntmps30
  go_wp2_with (go_at_call 43; refine (tRead_any l _ hl).mono ?_; rintro e w1 ⟨X, rfl, h⟩; replace h := hide h)
  go_ret2
  exact ⟨X, rfl, h.out⟩
end Go.Proofs.YtcclepohmhdpbabGreatDoor
