import Derived.Test.YtcclepohmhdpbabGreatDoorApH
namespace Go.Proofs.YtcclepohmhdpbabGreatDoor
set_option linter.all false
open Go.RowKit Go.Deep
structure CnR (base : Nat) (w : World) (b : Nat) (u : Value) (m : Mult) : Prop where
 low : base ≤ b
 cell : VRow w b 62 [u]
 rd : Rd3 w u m
theorem CnR.up {base : Nat} {w w' : World} {b : Nat} {u : Value} {m : Mult} (h : CnR base w b u m) (k : Up w w') : CnR base w' b u m := ⟨h.low, h.cell.up k, h.rd.up k⟩
theorem canon_r (v : Value) (m : Mult) (w : World) (g : Nat) (u : Value) (hs : SetR w v m g u) (hz : Sz m) (hf : FZ m) (hv : Vd.least m = 0) :
  Calls Tryz.prog 16 #[v] w fun e w' => ∃ (b : Nat) (ao : Option Addr) (cap : Nat), e = .returned (.tuple #[.pointer (some ⟨b, 0, none⟩), .int .i64 0]) ∧ CnR w.heap.size w' b (.slice ao (Vd.form m).length cap) (Vd.form m) ∧ Up w w' :=
 (canonical_ok v m w g u hs hz hf hv).mono fun e w' ⟨b, G, X, he, hb, hrow, hN, hE, hu⟩ => by
  have hl : (Vd.form m).length = X.length := by rw [← hE, PG.m_len]
  exact ⟨b, _, X.length, he, ⟨hb, by rw [hl]; exact hrow, by rw [hl, ← hE]; exact ns_rd3 hN⟩, hu⟩
set_option maxRecDepth 8000 in
set_option maxHeartbeats 8000000 in
theorem separate_any (v1 v2 : Value) (m1 m2 : Mult) (w : World) (g1 g2 : Nat) (u1 u2 : Value) (h1 : SetR w v1 m1 g1 u1) (h2 : SetR w v2 m2 g2 u2) (z1 : Sz m1) (f1 : FZ m1) (l1 : Vd.least m1 = 0) (z2 : Sz m2) (f2 : FZ m2) (l2 : Vd.least m2 = 0) (a1 : SzA (Vd.form m1)) (a2 : SzA (Vd.form m2)) (ht : TabD w) :
    Calls Tryz.prog 19 #[v1, v2] w fun e w' => e = .returned (sepV (Vd.spot (Vd.form m1) (Vd.form m2))) ∧ Up w w' := by
  have K1 := hide (canon_r v1 m1 w g1 u1 h1 z1 f1 l1)
  have K2 : Hid (∀ w', Up w w' → _) := fun w' k => canon_r v2 m2 w' g2 u2 (h2.up k) z2 f2 l2
  have KS : Hid (∀ va vb w', Rd3 w' va (Vd.form m1) → Rd3 w' vb (Vd.form m2) → Calls Tryz.prog 34 #[va, vb] w' fun e w'' => e = .returned (spoV (Vd.spot (Vd.form m1) (Vd.form m2))) ∧ Up w' w'') := fun va vb w' ha hb => spot_any va vb _ _ w' ha hb a1 a2
  have HFit : Hid (∀ p, Vd.spot (Vd.form m1) (Vd.form m2) = some p → Fit p) := fun p hp => spot_fit a1 a2 hp
  have HT := hide ht
  obtain ⟨rfl, -, -⟩ := h1
  obtain ⟨rfl, -, -⟩ := h2
  clear z1 l1 f1 z2 l2 f2 a1 a2 ht
  generalize Vd.spot (Vd.form m1) (Vd.form m2) = R at *
  generalize Vd.form m1 = F1 at *
  generalize Vd.form m2 = F2 at *
  go_enter Tryz.func19, Tryz.ntmps19
  go_wp2_with fail
  refine K1.out.mono ?_
  rintro e w2 ⟨b1, ao1, cap1, rfl, hc1, hu⟩
  have C1 := hide hc1
  have HU := hide hu
  clear hu hc1 K1
  go_wp2_with fail
  refine (K2.out _ HU.out).mono ?_
  rintro e w3 ⟨b2, ao2, cap2, rfl, hc2, hu⟩
  have C2 := hide hc2
  replace C1 := hide (C1.out.up hu)
  replace HU := hide (HU.out.trans hu)
  have c1 := C1.out.cell.cell (i := 0) rfl
  have c2 := C2.out.cell.cell (i := 0) rfl
  have c1a := fun o => ((Up.refl w3).alloc o).cell c1
  have c2a := fun o => ((Up.refl w3).alloc o).cell c2
  clear hu hc2 K2
  have HV : Hid (spoV R = .tuple #[.agg #[.int .i64 (R.getD ((0, 0), 0)).1.1, .int .i64 (R.getD ((0, 0), 0)).1.2, .int .i64 (R.getD ((0, 0), 0)).2], .bool R.isSome]) := rfl
  go_upto_region 7 with fail
  go_cut [11, 12] (fun pv gv wc => ∃ (B : Nat), pv = .pointer (some ⟨B, 0, none⟩) ∧ gv = .bool R.isSome ∧ Hid (Up w3 wc) ∧ Hid (VRow wc B 65 [.int .i64 (R.getD ((0, 0), 0)).1.1, .int .i64 (R.getD ((0, 0), 0)).1.2, .int .i64 (R.getD ((0, 0), 0)).2]))
  case first =>
    generalize R.isSome = G at *
    generalize R.getD ((0, 0), 0) = Z at *
    obtain ⟨⟨p1, p2⟩, p3⟩ := Z
    simp only at HV
    go_region_with ((go_at_call 34; refine (KS.out _ _ _ (C1.out.rd.up (by first | exact (Up.refl _).drew | exact Up.refl _ | exact ((Up.refl _).alloc _).drew | exact (Up.refl _).alloc _ | exact (Up.refl _).drew.alloc _)) (C2.out.rd.up (by first | exact (Up.refl _).drew | exact Up.refl _ | exact ((Up.refl _).alloc _).drew | exact (Up.refl _).alloc _ | exact (Up.refl _).drew.alloc _))).mono ?_; rintro e w4 ⟨rfl, u4⟩; rw [HV.out]; (try (have Z4 : Hid (VRow w4 w3.heap.size 65 [.int .i64 0, .int .i64 0, .int .i64 0]) := (by first | exact (VRow.new w3 [.int .i64 0, .int .i64 0, .int .i64 0] 65).up u4 | exact (VRow.drewN (VRow.new w3 [.int .i64 0, .int .i64 0, .int .i64 0] 65) 1).up u4); have z0 := Z4.out.cell (i := 0) rfl; have z1 := Z4.out.cell (i := 1) rfl; have z2 := Z4.out.cell (i := 2) rfl; have zf := fun i => Z4.out.frozen i)); replace u4 := hide u4))
    all_goals
      have HU4 : Hid (Up w3 w4) := (by first | exact (Up.refl _).drew.trans u4.out | exact u4.out | exact ((Up.refl _).alloc _).drew.trans u4.out | exact ((Up.refl _).alloc _).trans u4.out | exact ((Up.refl _).drew.alloc _).trans u4.out)
      go_wp2
      go_meet
      case rel =>
        first
          | exact ⟨w3.heap.size, rfl, rfl, ((HU4.out.setCell (by simp) _).setCell (by simp) _).setCell (by simp) _, ((Z4.out.set 0 _).set 1 _).set 2 _⟩
          | exact ⟨w4.heap.size, rfl, rfl, HU4.out.alloc _, VRow.new w4 _ _⟩
  case rest =>
    obtain ⟨B, rfl, rfl, HU4, RB⟩ := hcut
    replace HU := hide (HU.out.trans HU4.out)
    clear HU4 c1 c2 c1a c2a HV
    cases R with
    | none =>
      simp only [Option.isSome_none]
      go_wp2
      refine bodyPost_ret (v := .tuple #[.string ⟨#[]⟩, .string ⟨#[]⟩, .string ⟨#[]⟩, .int .i64 8]) (by simp [results, Tryz.results19, go_sem]) rfl ⟨rfl, HU.out⟩
    | some p =>
      obtain ⟨⟨q1, q2⟩, q3⟩ := HFit.out p rfl
      have D1 : Hid (∀ g : Gr wc, Calls Tryz.prog 35 #[.int .i64 p.1.1] g.v fun e w' => e = .returned (.string (bs (Lib.itoa p.1.1))) ∧ Up g.v w') := fun g => digits_any _ q1.1 q1.2 g.v (HT.out.up (HU.out.trans g.up))
      have D2 : Hid (∀ g : Gr wc, Calls Tryz.prog 35 #[.int .i64 p.1.2] g.v fun e w' => e = .returned (.string (bs (Lib.itoa p.1.2))) ∧ Up g.v w') := fun g => digits_any _ q2.1 q2.2 g.v (HT.out.up (HU.out.trans g.up))
      have D3 : Hid (∀ g : Gr wc, Calls Tryz.prog 35 #[.int .i64 p.2] g.v fun e w' => e = .returned (.string (bs (Lib.itoa p.2))) ∧ Up g.v w') := fun g => digits_any _ q3.1 q3.2 g.v (HT.out.up (HU.out.trans g.up))
      clear q1 q2 q3 HFit
      simp only [Option.isSome_some, Option.getD_some] at RB ⊢
      have HV : Hid (sepV (some p) = .tuple #[.string (bs (Lib.itoa p.1.1)), .string (bs (Lib.itoa p.1.2)), .string (bs (Lib.itoa p.2)), .int .i64 0]) := rfl
      generalize bs (Lib.itoa p.1.1) = s1 at *
      generalize bs (Lib.itoa p.1.2) = s2 at *
      generalize bs (Lib.itoa p.2) = s3 at *
      generalize p.1.1 = p1 at *
      generalize p.1.2 = p2 at *
      generalize p.2 = p3 at *
      have b0 := RB.out.gr (i := 0) rfl
      have b1 := RB.out.gr (i := 1) rfl
      have b2 := RB.out.gr (i := 2) rfl
      go_wp2_with fail
      refine wp_region_up (by kernel_rfl) (by kernel_rfl) ?_
      repeat (first | go_big_quiet_step (fail))
      go_big_quiet_step ((go_at_call 35; exact Calls.up_of (D1.out _)))
      repeat (first | go_big_quiet_step (fail))
      go_big_quiet_step ((go_at_call 35; exact Calls.up_of (D2.out _)))
      repeat (first | go_big_quiet_step (fail))
      go_big_quiet_step ((go_at_call 35; exact Calls.up_of (D3.out _)))
      repeat (first | go_big_quiet_step (fail))
      refine wpQuiet_nil ?_
      rintro w5 ⟨⟨_, u5⟩, rfl⟩
      have HU5 := hide (HU.out.trans u5)
      clear u5
      go_wp2
      refine bodyPost_ret (v := .tuple #[.string s1, .string s2, .string s3, .int .i64 0]) (by simp [results, Tryz.results19, go_sem]) rfl ⟨by rw [HV.out], HU5.out⟩
end Go.Proofs.YtcclepohmhdpbabGreatDoor
