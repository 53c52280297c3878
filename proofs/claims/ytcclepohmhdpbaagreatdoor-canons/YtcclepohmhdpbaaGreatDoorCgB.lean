/- THE SCRIPTS' LAWS: the step Canonical. -/
import Derived.Test.YtcclepohmhdpbaaGreatDoorCgA
import Derived.Deep.DeepCutAuto
namespace Go.Proofs.YtcclepohmhdpbaaGreatDoor
set_option linter.all false
open Go.RowKit Go.Deep
attribute [local go_sem ↓] Go.wp_at_zero Go.wp_at_succ

set_option maxRecDepth 100000 in
set_option maxHeartbeats 4000000 in
theorem step_canon {w0 : World} (w : World) (Wb : Nat) (psv outv : Value) (mk : Int) (S : List SG) (O : List OG) (L : L3) (n : Nat) (h : Inv w0 w Wb psv outv mk S O L n) (hn : n ≤ 1048576) (hS : 0 < S.length) (a b c : Int) (s : ByteArray) (ha0 : -9223372036854775808 ≤ a) (ha1 : a ≤ 9223372036854775807) :
    Calls Tryz.prog 43 #[.pointer (some ⟨Wb, 0, none⟩), .agg #[.int .i64 10, .int .i64 a, .int .i64 b, .int .i64 c, .string s]] w fun e w' => e = .returned (.bool true) ∧ ∃ psv' S', Inv w0 w' Wb psv' outv mk S' O L (n + 1) := by
  obtain ⟨G, cap, hv, _⟩ := own_cell h.ops hS
  have hSl : S.length ≤ 1048576 := by have := h.bS; omega
  have hne0 : ((S.length : Int) == 0) = false := beq_eq_false_iff_ne.2 (by omega)
  have hv' := hide hv
  have h' := hide h
  clear h hv
  go_enter Tryz.func43, Tryz.ntmps43
  go_wp2_with (go_at_call 67; refine (owner_other _ Wb 10 a b c s rfl rfl rfl rfl).mono ?_; rintro e w1 ⟨rfl, hu1⟩; have hkd := hu1.cell ((VRow.new w [.int .i64 10, .int .i64 a, .int .i64 b, .int .i64 c, .string s] 46).cell (i := 0) rfl); have hka := hu1.cell ((VRow.new w [.int .i64 10, .int .i64 a, .int .i64 b, .int .i64 c, .string s] 46).cell (i := 1) rfl); have hkb := hu1.cell ((VRow.new w [.int .i64 10, .int .i64 a, .int .i64 b, .int .i64 c, .string s] 46).cell (i := 2) rfl); have hkc := hu1.cell ((VRow.new w [.int .i64 10, .int .i64 a, .int .i64 b, .int .i64 c, .string s] 46).cell (i := 3) rfl); have hks := hu1.cell ((VRow.new w [.int .i64 10, .int .i64 a, .int .i64 b, .int .i64 c, .string s] 46).cell (i := 4) rfl); have hI := h'.out.up (((Up.refl w).alloc _).trans hu1); have c0 := hI.wrow.c0; rw [hv'.out] at c0; replace hI := hide hI; clear hu1)
  have c0a := fun o => ((Up.refl w1).alloc o).cell c0
  have hkaa := fun o => ((Up.refl w1).alloc o).cell hka
  have hcell : Hid (∀ (i : Nat) sg, S[i]? = some sg → w1.cell? ⟨G, i * 2, none⟩ = some sg.x ∧ w1.cell? ⟨G, i * 2 + 1, none⟩ = some sg.dm.v) := by
    intro i sg hsg
    obtain ⟨G', cap', e, hc⟩ := own_cell hI.out.ops hS
    rw [hv'.out] at e
    cases e
    have := cellsS_at S i sg hsg
    exact ⟨hc _ _ this.1, hc _ _ this.2⟩
  have hptr : Hid (∀ (i : Nat) sg, S[i]? = some sg → ∃ bx, sg.x = .pointer (some ⟨bx, 0, none⟩)) := fun i sg hsg => ⟨sg.bx, (hI.out.sets sg (Pl.mem_of_some hsg)).ptr⟩
  go_upto_region 11 with fail
  go_cut [6] (fun sl wc => ∃ (pb i : Nat) (sg : SG), sl = .pointer (some ⟨pb, 0, none⟩) ∧ Hid (S[i]? = some sg ∧ Up w1 wc ∧ VRow wc pb 52 [sg.x, sg.dm.v]))
  case first =>
    go_region_with ((go_at_call 16; refine (pick_any a S.length _ hS hSl ha0 ha1).mono ?_; rintro e w2 ⟨⟨i, hi, rfl⟩, rfl⟩; have hi2 : (i : Int) < (S.length : Int) := (by omega); obtain ⟨sg, hsg⟩ := Pl.some_of_lt hi; obtain ⟨q1, q2⟩ := hcell.out i sg hsg; obtain ⟨bx, hbx⟩ := hptr.out i sg hsg; rw [hbx] at q1; rw [SV.v] at q2; have q1a := fun o => ((Up.refl w1).alloc o).cell q1; have q2a := fun o => ((Up.refl w1).alloc o).cell q2; replace hsg := hide hsg; replace hbx := hide hbx))
    all_goals
      go_wp2
      go_meet
      case rel => exact ⟨w1.heap.size, i, sg, rfl, hsg.out, (by first | exact ((Up.refl w1).alloc _).drew | exact (Up.refl w1).alloc _), (by rw [hbx.out, SV.v]; first | exact VRow.drewN (VRow.new w1 _ _) 1 | exact VRow.new w1 _ _)⟩
  case rest =>
    obtain ⟨pb, i, sg, rfl, hcut⟩ := hcut
    obtain ⟨hsg, hu, hrow⟩ := hcut.out
    have hd := hu.cell hkd
    have hdb := hu.cell hkb
    have hdc := hu.cell hkc
    have hds := hu.cell hks
    have hI2 := hide (hI.out.up hu)
    have hset := hide (hI2.out.sets sg (Pl.mem_of_some hsg))
    have r0 := hrow.cell (i := 0) (v := sg.x) rfl
    have r1 := hrow.cell (i := 1) (v := sg.dm.v) rfl
    obtain ⟨bx, hbx⟩ := hptr.out i sg hsg
    have hlaw := hide (lawCanon_any wc Wb psv outv mk S O L n hI2.out hn sg (Pl.mem_of_some hsg))
    rw [hbx, SV.v] at hlaw
    rw [hbx] at r0
    rw [SV.v] at r1
    clear hsg hu hrow hcut hkd hka hkb hkc hks c0 c0a hkaa hbx
    go_wp2_with fail
    refine hlaw.out.mono ?_
    rintro e w3 ⟨rfl, hq⟩
    have HQ := hide hq
    clear hq r0 r1 hd hdb hdc hds hlaw
    go_wp2
    go_ret
    exact ⟨rfl, HQ.out⟩
theorem ok_canon : StepOK 10 := fun w0 w Wb psv outv mk S O L n hI hn a b c s ho => by
  by_cases hS : 0 < S.length
  · exact (step_canon w Wb psv outv mk S O L n hI hn hS a b c s ho.a0 ho.a1).mono fun e w' ⟨he, psv', S', hi⟩ => ⟨he, psv', outv, mk, S', O, L, hi⟩
  · have : S = [] := List.eq_nil_of_length_eq_zero (by omega)
    subst this
    exact (step_none 10 rfl rfl rfl rfl rfl rfl w Wb psv outv mk O L n hI a b c s).mono fun e w' ⟨he, hi⟩ => ⟨he, psv, outv, mk, [], O, L, hi⟩

set_option maxRecDepth 100000 in
set_option maxHeartbeats 4000000 in
theorem lawcanons_any (w : World) (v : Value) (P : List OpD) (hv : RdP w v P) (hok : ∀ o ∈ P, OpOK o) (hb : (P.length : Int) ≤ 9223372036854775807) :
    Calls Tryz.prog 8 #[v] w fun e w' => e = .returned (.bool true) ∧ Up w w' := by
  have hrow := VRow.new w [.int .i64 6, .int .i64 10, .int .i64 8] 3
  have hp := hide (plays_gen (w.alloc (.cells #[.int .i64 6, .int .i64 10, .int .i64 8] 3)) v P (hv.up ((Up.refl w).alloc _)) hok hb [6, 10, 8] (by intro x hx; simp at hx; rcases hx with rfl | rfl | rfl; exact ok_make; exact ok_canon; exact ok_points) (by simp) w.heap.size (by
    intro q x hx
    rcases q with _ | _ | _ | q
    · simp at hx; subst hx; exact hrow.cell rfl
    · simp at hx; subst hx; exact hrow.cell rfl
    · simp at hx; subst hx; exact hrow.cell rfl
    · simp at hx))
  clear hrow hv hok hb
  go_enter Tryz.func8, Tryz.ntmps8
  go_wp2_with fail
  refine hp.out.mono ?_
  rintro e w1 ⟨rfl, hu⟩
  replace hu := hide hu
  go_wp2
  go_ret
  exact ⟨rfl, ((Up.refl w).alloc _).trans hu.out⟩
end Go.Proofs.YtcclepohmhdpbaaGreatDoor
