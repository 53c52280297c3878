/- THE LAW's has. -/
import Derived.Test.YtcclepohmhdpbaaGreatDoorHsB
import Derived.Test.YtcclepohmhdpbaaGreatDoorLwB
namespace Go.Proofs.YtcclepohmhdpbaaGreatDoor
set_option linter.all false
open Go.RowKit Go.Deep

theorem goodH_iff (a b d : Int) : goodH a b d ↔ (-1048576 ≤ a ∧ a ≤ 1048576 ∧ -1048576 ≤ b ∧ b ≤ 1048576 ∧ 1 ≤ d ∧ d ≤ 1048576) := by
  unfold goodH partB
  simp only [Bool.and_eq_true, decide_eq_true_eq]
  omega
set_option maxRecDepth 8000 in
set_option maxHeartbeats 4000000 in
theorem lawHas_any (x : Value) (m : Mult) (bx : Nat) (u : Value) (dm : D3) (a b d : Int) (w : World) (hs : SetR w x m bx u) (hok : OK3 w dm) (he : dm.m = m) (h0 : Pl.wrong m = 0) :
    Calls Tryz.prog 68 #[.agg #[x, dm.v], .int .i64 a, .int .i64 b, .int .i64 d] w fun e w' => e = .returned (.bool true) ∧ Up w w' := by
  have HS := hide hs
  have HO := hide hok
  have HE := hide he
  have HZ := hide (sz_of h0)
  have HG := hide (Vd.good_of h0)
  obtain ⟨rfl, -, -⟩ := hs
  have HU0 : Hid (Up w (w.alloc (.cells #[.pointer (some ⟨bx, 0, none⟩), dm.v] 52))) := (Up.refl _).alloc _
  have R0 := hide (new_row (w := w) (o := .cells #[.pointer (some ⟨bx, 0, none⟩), dm.v] 52) (vs := [.pointer (some ⟨bx, 0, none⟩), dm.v]) rfl)
  clear hok he h0
  by_cases hg : goodH a b d
  · have hr := (goodH_iff a b d).1 hg
    obtain ⟨r1, r2, r3, r4, r5, r6⟩ := hr
    have hsp : Hid (Vd.Sp ((a, b), d)) := ⟨r1, r2, r3, r4, r5, r6⟩
    have n1 : ¬ a < -1048576 := by omega
    have n2 : ¬ 1048576 < a := by omega
    have n3 : ¬ b < -1048576 := by omega
    have n4 : ¬ 1048576 < b := by omega
    have n5 : ¬ d < 1 := by omega
    have n6 : ¬ 1048576 < d := by omega
    have HGd := hide hg
    clear r1 r2 r3 r4 r5 r6 hg
    have HV : Hid (∀ w', Up w w' → Calls Tryz.prog 34 #[dm.v] w' fun e w'' => e = .returned (.int .i64 (Vd.least m)) ∧ Up w' w'') := fun w' hu => valid_any _ m w' (by have := (HO.out.up hu).rc; rw [HE.out] at this; exact this) HZ.out HG.out
    by_cases hv : Vd.least m = 0
    · have HK := hide (has_ok _ m a b d _ bx u (HS.out.up HU0.out) HZ.out HGd.out hv)
      rw [hv] at HV
      have HH : Hid (∀ w', Up w w' → Calls Tryz.prog 109 #[dm.v, ptV (a, b), .int .i64 d] w' fun e w'' => e = .returned (.bool (Vd.inSet m ((a, b), d))) ∧ Up w' w'') := fun w' hu => by
        have := holdsD_any _ m ((a, b), d) w' (by have := (HO.out.up hu).rc; rw [HE.out] at this; exact this) HZ.out HG.out hsp.out
        rw [Vd.holds_eq HG.out hv (by have := hsp.out.2.2.2.2.1; simp only at this ⊢; omega)] at this
        exact this
      generalize Vd.inSet m ((a, b), d) = X at *
      clear hv
      rw [D3.v] at *
      simp only [ptV] at *
      go_enter Tryz.func68, Tryz.ntmps68
      have s0 := R0.out.cell (i := 0) rfl
      go_wp2_with fail
      refine HK.out.mono ?_
      rintro e w1 ⟨rfl, hu1⟩
      have HU1 := hide (HU0.out.trans hu1)
      have R1 := hide (R0.out.up hu1)
      have s1 := R1.out.cell (i := 1) rfl
      clear hu1 s0 HK
      go_wp2_with fail
      refine (HV.out _ HU1.out).mono ?_
      rintro e w2 ⟨rfl, hu2⟩
      have HU2 := hide (HU1.out.trans hu2)
      have s2 := hu2.cell s1
      clear hu2 s1
      go_wp2_with fail
      refine (HH.out _ HU2.out).mono ?_
      rintro e w3 ⟨rfl, hu3⟩
      have HU3 := hide (HU2.out.trans hu3)
      clear hu3 s2
      cases X
      all_goals
        go_wp2
        go_ret
        exact ⟨rfl, HU3.out⟩
    · have HK := hide (has_invalid _ m a b d _ bx u (HS.out.up HU0.out) HZ.out HGd.out hv)
      have hv' := bne_iff_ne.2 hv
      have hv2 := beq_eq_false_iff_ne.2 hv
      generalize Vd.least m = I at *
      rw [D3.v] at *
      go_enter Tryz.func68, Tryz.ntmps68
      have s0 := R0.out.cell (i := 0) rfl
      go_wp2_with fail
      refine HK.out.mono ?_
      rintro e w1 ⟨rfl, hu1⟩
      have HU1 := hide (HU0.out.trans hu1)
      have R1 := hide (R0.out.up hu1)
      have s1 := R1.out.cell (i := 1) rfl
      clear hu1 s0 HK
      go_wp2_with fail
      refine (HV.out _ HU1.out).mono ?_
      rintro e w2 ⟨rfl, hu2⟩
      have HU2 := hide (HU1.out.trans hu2)
      clear hu2 s1
      go_wp2
      go_ret
      exact ⟨rfl, HU2.out⟩
  · have hr := fun k => hg ((goodH_iff a b d).2 k)
    have HK := hide (has_bad (.pointer (some ⟨bx, 0, none⟩)) a b d (w.alloc (.cells #[.pointer (some ⟨bx, 0, none⟩), dm.v] 52)) hg)
    have hcs : a < -1048576 ∨ (¬ a < -1048576 ∧ (1048576 < a ∨ (¬ 1048576 < a ∧ (b < -1048576 ∨ (¬ b < -1048576 ∧ (1048576 < b ∨ (¬ 1048576 < b ∧ (d < 1 ∨ (¬ d < 1 ∧ 1048576 < d))))))))) := by
      rcases Int.lt_or_le a (-1048576) with k1 | k1
      · exact .inl k1
      · refine .inr ⟨by omega, ?_⟩
        rcases Int.lt_or_le 1048576 a with k2 | k2
        · exact .inl k2
        · refine .inr ⟨by omega, ?_⟩
          rcases Int.lt_or_le b (-1048576) with k3 | k3
          · exact .inl k3
          · refine .inr ⟨by omega, ?_⟩
            rcases Int.lt_or_le 1048576 b with k4 | k4
            · exact .inl k4
            · refine .inr ⟨by omega, ?_⟩
              rcases Int.lt_or_le d 1 with k5 | k5
              · exact .inl k5
              · refine .inr ⟨by omega, ?_⟩
                rcases Int.lt_or_le 1048576 d with k6 | k6
                · exact k6
                · exact absurd ⟨k1, k2, k3, k4, k5, k6⟩ hr
    clear hr hg
    rw [D3.v] at *
    rcases hcs with k1 | ⟨k1, k2 | ⟨k2, k3 | ⟨k3, k4 | ⟨k4, k5 | ⟨k5, k6⟩⟩⟩⟩⟩
    all_goals
      go_enter Tryz.func68, Tryz.ntmps68
      have s0 := R0.out.cell (i := 0) rfl
      go_wp2_with fail
      refine HK.out.mono ?_
      rintro e w1 ⟨rfl, hu1⟩
      have HU1 := hide (HU0.out.trans hu1)
      clear hu1 s0 HK
      go_wp2
      go_ret
      exact ⟨rfl, HU1.out⟩
end Go.Proofs.YtcclepohmhdpbaaGreatDoor
