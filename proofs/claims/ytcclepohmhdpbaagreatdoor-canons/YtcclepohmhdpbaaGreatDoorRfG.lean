/- THE DOCUMENT's WALKS: all. -/
import Derived.Test.YtcclepohmhdpbaaGreatDoorRfF
namespace Go.Proofs.YtcclepohmhdpbaaGreatDoor
set_option linter.all false
open Go.RowKit Go.Deep

theorem midsD_two {a b : Pnt} {rings : Poly} : ∀ (n : Nat) (x : Pnt), ∀ m ∈ Vd.midsD a b rings n x, m.2 = 2 := by
  intro n
  induction n with
  | zero => intro x m h; cases h
  | succ n ih =>
    intro x m h
    unfold Vd.midsD at h
    split at h
    · cases h
    · rcases List.mem_cons.1 h with rfl | h
      · rfl
      · exact ih _ m h
theorem midsD_sp {a b : Pnt} {rings : Poly} (hb : Vd.Cd b) (hc : Vd.CdL rings) : ∀ (n : Nat) (x : Pnt), Vd.Cd x → ∀ m ∈ Vd.midsD a b rings n x, Vd.Sp m := by
  intro n
  induction n with
  | zero => intro x _ m h; cases h
  | succ n ih =>
    intro x hx m h
    unfold Vd.midsD at h
    have hn := Vd.nextD_cd (a := a) (b := b) (x := x) hb hc
    split at h
    · cases h
    · rcases List.mem_cons.1 h with rfl | h
      · unfold Vd.Cd at hx hn
        unfold Vd.Sp Vd.midOf
        simp only
        omega
      · exact ih _ hn m h
theorem midD_len (a b : Pnt) (rings : Poly) : (Vd.midD a b rings).length ≤ rings.flatten.length + 1 := by
  unfold Vd.midD
  generalize rings.flatten.length + 1 = n
  have key : ∀ (n : Nat) (x : Pnt), (Vd.midsD a b rings n x).length ≤ n := by
    intro n
    induction n with
    | zero => intro x; exact Nat.le_refl _
    | succ n ih => intro x; unfold Vd.midsD; split; exact Nat.zero_le _; simp only [List.length_cons]; have := ih (Vd.nextD a b x rings); omega
  exact key n a

set_option maxRecDepth 4000 in
set_option maxHeartbeats 8000000 in
theorem all_any {o : Nat} (v u : Value) (r : Ring) (r0 : Ring) (t : List Ring) (so : Int) (w : World) (hv : Rd1 w v r) (hu : Rdo o w u (r0 :: t)) (hr : r.length ≤ 1048576) (hl : t.length ≤ 1048575) (hl2 : ∀ r ∈ r0 :: t, r.length ≤ 1048576) (hf : (r0 :: t).flatten.length ≤ 1048576) (hc : Vd.CdR r) (hc2 : Vd.CdL (r0 :: t)) :
    Calls Tryz.prog 130 #[v, u, .int .i64 so] w fun e w' => e = .returned (.bool (Vd.allD r (r0 :: t) so)) ∧ Up w w' := by
  obtain ⟨ao, cap, rfl, hm⟩ := hv
  have HM := hide hm
  have HV2 := hide hu
  obtain ⟨ao2, cap2, rfl, -⟩ := HV2.out
  have HC := hide hc
  have HC2 := hide hc2
  have HL := hide hl2
  have HF2 := hide hf
  have hl3 : (r0 :: t).length ≤ 1048576 := by simp only [List.length_cons]; omega
  obtain ⟨f, hf'⟩ : ∃ f : Vd.Seg → Bool, f = fun s => (Vd.midD s.1 s.2 (r0 :: t)).any fun m => decide (Vd.inP (r0 :: t) m ≠ so) := ⟨_, rfl⟩
  have HT : Hid (Vd.allD r (r0 :: t) so = !((Vd.segs r).any f)) := by subst hf'; exact rfl
  have HF : Hid (∀ s, f s = (Vd.midD s.1 s.2 (r0 :: t)).any fun m => decide (Vd.inP (r0 :: t) m ≠ so)) := by subst hf'; exact fun _ => rfl
  have HLen := hide (fun a b => midD_len a b (r0 :: t))
  have HSp : Hid (∀ a b, Vd.Cd a → Vd.Cd b → ∀ m ∈ Vd.midD a b (r0 :: t), Vd.Sp m) := fun a b ha hb m hm => midsD_sp hb hc2 _ a ha m hm
  have HTw : Hid (∀ a b, ∀ m ∈ Vd.midD a b (r0 :: t), m.2 = 2) := fun a b m hm => midsD_two _ a m hm
  clear hm hu hc hc2 hl2 hf hf'
  go_enter Tryz.func130, Tryz.ntmps130
  go_wp2
  go_loopw [7] (fun i wr => ∃ k : Nat, i = .int .i64 k ∧ k ≤ r.length ∧ Hid (Up w wr) ∧ Hid ((Vd.segs r).any f = ((Vd.segs r).drop k).any f)) (fun i _ => r.length - (intOf i).toNat)
  case atStart => exact ⟨0, rfl, Nat.zero_le _, Up.refl _, rfl⟩
  case round =>
    obtain ⟨k, rfl, hk, HU, HA⟩ := hrel
    by_cases hlt : k + 1 < r.length
    · obtain ⟨⟨ax, ay⟩, hpa⟩ := Pl.some_of_lt (show k < r.length by omega)
      obtain ⟨⟨bx, bY⟩, hpb⟩ := Pl.some_of_lt hlt
      obtain ⟨g, rfl, c0, c1⟩ := HM.out k _ hpa
      obtain ⟨g', e', d0, d1⟩ := HM.out (k + 1) _ hpb
      cases e'
      have ca := hide (HC.out _ (Pl.mem_of_some hpa))
      have cb := hide (HC.out _ (Pl.mem_of_some hpb))
      replace HA := hide (HA.out.trans (any_drop (Vd.segs_at hpa hpb)))
      rw [HF.out] at HA
      have c0' := HU.out.cell c0
      have c1' := HU.out.cell c1
      have d0' := HU.out.cell d0
      have d1' := HU.out.cell d1
      have i1 : (0 : Int) ≤ (k : Int) := by omega
      have i2 : (k : Int) < (r.length : Int) := by omega
      have i3 : (k : Int) + 1 < (r.length : Int) := by omega
      have i4 : (0 : Int) ≤ (k : Int) + 1 := by omega
      have i5 : IntKind.i64.wrap ((k : Int) + 1) = (k : Int) + 1 := wrap_id (by omega) (by omega)
      have i6 : wrap64 ((k : Int) + 1) = (k : Int) + 1 := w64 (by omega) (by omega)
      clear hpa hpb c0 c1 d0 d1
      try dsimp only at c0' c1' d0' d1'
      go_wp2
      go_region_held3 (fun w' => w'.cell? ⟨g, k * 2, none⟩ = some (.int .i64 ax) ∧ w'.cell? ⟨g, k * 2 + 1, none⟩ = some (.int .i64 ay) ∧ w'.cell? ⟨g, (k + 1) * 2, none⟩ = some (.int .i64 bx) ∧ w'.cell? ⟨g, (k + 1) * 2 + 1, none⟩ = some (.int .i64 bY)) (go_keep)
        (first | (go_at_call 166; refine (midD_any (ax, ay) (bx, bY) _ (r0 :: t) _ ca.out cb.out (HV2.out.up (HU.out.drew)) hl3 HL.out HF2.out HC2.out).mono ?_; rintro e w2 ⟨mv, rfl, hz, ho⟩; have HUm := hide (HU.out.drew.trans hz); have HOm := hide ho; have k0 := (((Up.refl wr).drew).trans hz).cell c0'; have k1 := (((Up.refl wr).drew).trans hz).cell c1'; have k2 := (((Up.refl wr).drew).trans hz).cell d0'; have k3 := (((Up.refl wr).drew).trans hz).cell d1'; clear hz ho))
      obtain ⟨ma, mc, rfl⟩ := own_len HOm.out
      have hLl := HLen.out (ax, ay) (bx, bY)
      have hF3 := HF2.out
      have HS2 := hide (HSp.out (ax, ay) (bx, bY) ca.out cb.out)
      have HW2 := hide (HTw.out (ax, ay) (bx, bY))
      generalize Vd.midD (ax, ay) (bx, bY) (r0 :: t) = L at *
      have hRd : Rd1 w2 (.slice ma L.length mc) (L.map (·.1)) := own_rd1 (by rw [List.length_map]; exact HOm.out)
      obtain ⟨ma', mc', e', hmm⟩ := hRd
      simp only [List.length_map, Value.slice.injEq] at e'
      obtain ⟨rfl, -, rfl⟩ := e'
      have HMM := hide hmm
      have hLb : L.length ≤ 1048577 := by omega
      clear k0 k1 k2 k3 c0' c1' d0' d1' hLl hF3 hmm i5 i6
      go_wp2
      go_loopw [9] (fun i wq => ∃ q : Nat, i = .int .i64 q ∧ q ≤ L.length ∧ Hid (Up w2 wq) ∧ Hid ((Vd.segs r).any f = ((L.drop q).any (fun m => decide (Vd.inP (r0 :: t) m ≠ so)) || ((Vd.segs r).drop (k + 1)).any f))) (fun i _ => L.length - (intOf i).toNat)
      case atStart => exact ⟨0, rfl, Nat.zero_le _, Up.refl _, HA⟩
      case round =>
        clear HU HA
        obtain ⟨q, rfl, hq, HUq, HA⟩ := hrel
        by_cases hlq : q < L.length
        · obtain ⟨⟨⟨mx, my⟩, md⟩, hm⟩ := Pl.some_of_lt hlq
          have e2 := HW2.out _ (Pl.mem_of_some hm)
          simp only at e2
          subst e2
          have HSm := hide (HS2.out _ (Pl.mem_of_some hm))
          obtain ⟨gm, rfl, c0, c1⟩ := HMM.out q (mx, my) (by rw [List.getElem?_map, hm]; rfl)
          rw [any_drop hm] at HA
          have c0' := HUq.out.cell c0
          have c1' := HUq.out.cell c1
          try dsimp only at c0' c1'
          have i7 : (0 : Int) ≤ (q : Int) := by omega
          have i8 : (q : Int) < (L.length : Int) := by omega
          clear hm c0 c1
          go_wp2_with fail
          refine (in_any _ r0 t ((mx, my), 2) _ (HV2.out.up (HUm.out.trans HUq.out)) hl HL.out HC2.out HSm.out).mono ?_
          rintro e w3 ⟨rfl, hz⟩
          have HU3 := hide (HUq.out.trans hz)
          generalize Vd.inP (r0 :: t) ((mx, my), 2) = I at *
          clear hz c0' c1' i7 i8
          by_cases hI : I = so
          · have HA2 : Hid ((Vd.segs r).any f = ((L.drop (q + 1)).any (fun m => decide (Vd.inP (r0 :: t) m ≠ so)) || ((Vd.segs r).drop (k + 1)).any f)) := by
              show _ = _
              rw [HA.out]; simp [hI]
            subst hI
            go_wp2
            go_roundw
            case rel => exact ⟨q + 1, by go_num, by omega, HU3, HA2⟩
            case measure => simp [intOf]; omega
          · have HR : Hid (Vd.allD r (r0 :: t) so = false) := by
              show _ = _
              rw [HT.out, HA.out]; simp [hI]
            have hI' := beq_eq_false_iff_ne.2 hI
            have hI2 := bne_iff_ne.2 hI
            go_wp2
            go_ret
            exact ⟨ret_b HR.out.symm, HUm.out.trans HU3.out⟩
        · have HA2 : Hid ((Vd.segs r).any f = ((Vd.segs r).drop (k + 1)).any f) := by
            show _ = _
            rw [HA.out, any_done (by omega)]; rfl
          go_wp2
          go_roundw
          case rel => exact ⟨k + 1, by go_num, by omega, HUm.out.trans HUq.out, HA2⟩
          case measure => simp [intOf]; omega
    · have HR : Hid (Vd.allD r (r0 :: t) so = true) := by
        show _ = _
        rw [HT.out, HA.out, any_done (by rw [Vd.segs_len]; omega)]; rfl
      go_wp2
      go_ret
      exact ⟨ret_b HR.out.symm, HU.out⟩
end Go.Proofs.YtcclepohmhdpbaaGreatDoor
