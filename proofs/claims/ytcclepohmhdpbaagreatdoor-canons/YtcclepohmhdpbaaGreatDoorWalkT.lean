/- THE WALKS: small, plays, upTo, Makes. -/
import Derived.Test.YtcclepohmhdpbaaGreatDoorWalkC
import Derived.Test.YtcclepohmhdpbaaGreatDoorWalkS
namespace Go.Proofs.YtcclepohmhdpbaaGreatDoor
set_option linter.all false
open Go.RowKit Go.Deep

/-- The kinds that Makes plays. -/
def playB (k : Int) : Bool := decide (k = 2) || decide (k = 3) || decide (k = 4) || decide (k = 5) || decide (k = 6) || decide (k = 8)

theorem step_any {w0 : World} (w : World) (Wb : Nat) (psv outv : Value) (mk : Int) (S : List SG) (O : List OG) (L : L3) (n : Nat) (h : Inv w0 w Wb psv outv mk S O L n) (hn : n ≤ 1048576) (o : OpD) (ho : OpOK o) (hk : playB o.kd = true) :
    Calls Tryz.prog 43 #[.pointer (some ⟨Wb, 0, none⟩), o.v] w fun e w' => e = .returned (.bool true) ∧ ∃ psv' outv' mk' S' O' L', Inv w0 w' Wb psv' outv' mk' S' O' L' (n + 1) := by
  obtain ⟨kd, a, b, c, s⟩ := o
  have hk' : kd = 2 ∨ kd = 3 ∨ kd = 4 ∨ kd = 5 ∨ kd = 6 ∨ kd = 8 := by
    simp [playB] at hk
    omega
  rcases hk' with rfl | rfl | rfl | rfl | rfl | rfl
  · exact step_owner w Wb 2 a b c s _ fun w1 hu => (owner_point w1 Wb psv outv mk S O L n (h.up hu) hn a b c s).mono fun e w' ⟨he, L', hi⟩ => ⟨he, psv, outv, mk, S, O, L', hi⟩
  · refine step_owner w Wb 3 a b c s _ fun w1 hu => ?_
    by_cases h0 : L.ps = []
    · exact (owner_noring w1 Wb psv outv mk S O L n (h.up hu) a b c s h0).mono fun e w' ⟨he, hu'⟩ => ⟨he, psv, outv, mk, S, O, L, ((h.up hu).up hu').more⟩
    · obtain ⟨v, ps⟩ := L
      obtain ⟨A, x, rfl⟩ := snoc_of h0
      exact (owner_ring w1 Wb psv outv mk S O v A x n (h.up hu) hn a b c s).mono fun e w' ⟨he, L', hi⟩ => ⟨he, psv, outv, mk, S, O, L', hi⟩
  · exact step_owner w Wb 4 a b c s _ fun w1 hu => (owner_poly w1 Wb psv outv mk S O L n (h.up hu) hn a b c s).mono fun e w' ⟨he, L', hi⟩ => ⟨he, psv, outv, mk, S, O, L', hi⟩
  · exact step_owner w Wb 5 a b c s _ fun w1 hu => (owner_clear w1 Wb psv outv mk S O L n (h.up hu) a b c s).mono fun e w' ⟨he, L', hi⟩ => ⟨he, psv, outv, mk, S, O, L', hi⟩
  · exact (step_make w Wb psv outv mk S O L n h hn a b c s).mono fun e w' ⟨he, psv', mk', S', hi⟩ => ⟨he, psv', outv, mk', S', O, L, hi⟩
  · by_cases hS : 0 < S.length
    · exact (step_points w Wb psv outv mk S O L n h hn hS a b c s ho.a0 ho.a1).mono fun e w' ⟨he, outv', mk', O', hi⟩ => ⟨he, psv, outv', mk', S, O', L, hi⟩
    · have : S = [] := List.eq_nil_of_length_eq_zero (by omega)
      subst this
      exact (step_points0 w Wb psv outv mk O L n h a b c s).mono fun e w' ⟨he, hi⟩ => ⟨he, psv, outv, mk, [], O, L, hi⟩

theorem Inv.start (w : World) : Inv w (w.alloc (.cells #[.slice none 0 0, .slice none 0 0, .slice none 0 0, .int .i64 0] 38)) w.heap.size (.slice none 0 0) (.slice none 0 0) 0 [] [] L3.nil 0 :=
  ⟨VRow.new w [.slice none 0 0, .slice none 0 0, .slice none 0 0, .int .i64 0] _, World.ownsRow_nil _ _ _ _, World.ownsRow_nil _ _ _ _, ⟨World.ownsRow_nil _ _ _ _, by simp [L3.nil]⟩, by simp [L3.bl, L3.nil, nilV, Value.ownBlock], by simp, by simp, by simp, by simp, by omega, by omega, by simp [tot, L3.m, L3.nil, Pl.nR, Pl.nP], (Up.refl w).alloc _, by
    rintro b (e | e | e | e)
    · omega
    · cases e
    · cases e
    · simp [L3.bl, L3.nil, nilV, Value.ownBlock] at e⟩

set_option maxRecDepth 100000 in
set_option maxHeartbeats 4000000 in
theorem upTo_any (w : World) (v : Value) (P : List OpD) (hv : RdP w v P) (hP : ∀ o ∈ P, OpOK o ∧ playB o.kd = true) (hb : P.length ≤ 1048576) :
    Calls Tryz.prog 22 #[v] w fun e w' => e = .returned (.int .i64 (-1)) ∧ Up w w' := by
  obtain ⟨ao, cap, rfl, hr⟩ := hv
  have hr' := hide hr
  have hP' := hide hP
  have hst := hide (Inv.start w)
  clear hr hP
  go_enter Tryz.func22, Tryz.ntmps22
  go_wp2
  go_loopw [4] (fun i wr => ∃ (k : Nat) (psv outv : Value) (mk : Int) (S : List SG) (O : List OG) (L : L3), k ≤ P.length ∧ i = .int .i64 k ∧ Inv w wr w.heap.size psv outv mk S O L k) (fun i _ => P.length - (intOf i).toNat)
  case atStart => exact ⟨0, _, _, _, _, _, _, Nat.zero_le _, rfl, hst.out⟩
  case round =>
    obtain ⟨k, psv, outv, mk, S, O, L, hk, rfl, hI⟩ := hrel
    by_cases hlt : k < P.length
    · obtain ⟨o, ho⟩ := Pl.some_of_lt hlt
      obtain ⟨b, off, rfl, q0, q1, q2, q3, q4⟩ := hr'.out k o ho
      have p0 := hI.base.cell q0
      have p1 := hI.base.cell q1
      have p2 := hI.base.cell q2
      have p3 := hI.base.cell q3
      have p4 := hI.base.cell q4
      have hI' := hide hI
      have hok := hide (hP'.out o (Pl.mem_of_some ho))
      have hstep := hide (step_any wr w.heap.size psv outv mk S O L k hI (by omega) o hok.out.1 hok.out.2)
      rw [OpD.v] at hstep
      clear hI ho q0 q1 q2 q3 q4
      go_wp2_with fail
      refine hstep.out.mono ?_
      rintro e w1 ⟨rfl, psv', outv', mk', S', O', L', hI1⟩
      have hI1' := hide hI1
      have hOb : Hid (O'.length ≤ 1073741824) := by have := hI1.bO; show _ ≤ _; omega
      clear hI1 p0 p1 p2 p3 p4
      go_wp2_with fail
      refine (wstands_any _ w1 w.heap.size psv' L'.v outv' mk' O' hI1'.out.wrow hI1'.out.oout hI1'.out.outs hOb.out).mono ?_
      rintro e w2 ⟨rfl, hd2⟩
      replace hd2 := hide hd2
      go_wp2
      go_roundw
      case rel => exact ⟨k + 1, _, _, _, _, _, _, by omega, by go_num, hI1'.out.up hd2.out.up⟩
      case measure => simp [intOf]; omega
    · have : k = P.length := by omega
      subst this
      have hb := hide hI.base
      clear hI
      go_wp2
      go_ret
      exact ⟨rfl, hb.out⟩

end Go.Proofs.YtcclepohmhdpbaaGreatDoor
