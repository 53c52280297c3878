/- THE PROGRAM's JSON: the object, Read. -/
import Derived.Test.YtcclepohmhdpbaaJpK
namespace Go.Proofs.Ytcclepohmhdpbaa
set_option linter.all false
open Go.RowKit Go.Deep

def jSetPost (l : List UInt8) (rb : Nat) (w : World) (e : Ending) (w' : World) : Prop :=
  ∃ (x : L3) (l' : List UInt8) (bad off : Bool), e = .returned x.v ∧ x.ok w' ∧ RT w' rb l' bad off ∧ Fr (· = rb) w w' ∧ Js.set l = (if bad = true then none else some (x.m, l', off)) ∧ l'.length ≤ 6000

set_option maxRecDepth 100000 in
set_option maxHeartbeats 8000000 in
theorem jSet_any (l : List UInt8) (rb : Nat) (w : World) (hr : RT w rb l false false) (hl : l.length ≤ 6000) :
    Calls Try.prog 19 #[.pointer (some ⟨rb, 0, none⟩)] w (jSetPost l rb w) := by
  have HR := hide hr
  clear hr
  go_enter Try.func19, Try.ntmps19
  go_wp2_with fail
  refine (begin_any 123 125 l false false rb _ HR.out hl).mono ?_
  rintro e w1 ⟨l1, b1, more1, rfl, h1, u1, hl1, hm1, hm2⟩
  have HT1 := hide (fun h => And.intro (hm1 h).1 (And.intro (hm1 h).2.1 ((hm1 h).2.2.1 _ Js.memS false)))
  have HT2 := hide (fun h => (hm2 h).1 _ Js.memS false)
  obtain ⟨T, hTe⟩ : ∃ T, T = (if false = true then none else Js.list 123 125 Js.memS l false) := ⟨_, rfl⟩
  rw [← hTe] at HT1 HT2
  have HTE : Hid (T = Js.list 123 125 Js.memS l false) := hTe
  replace h1 := hide h1
  replace u1 := hide u1
  clear hm1 hm2 hTe
  go_wp2_with fail
  go_loopw [3, 4, 5, 6] (fun pv tv cv mv wr => ∃ (k : Nat) (r : List Js.M) (l' : List UInt8) (bad off more : Bool) (x : L3), pv = x.v ∧ tv = .int .i64 (Js.types r : Nat) ∧ cv = .int .i64 ((Js.places r).length : Nat) ∧ mv = .bool more ∧ Hid (x.ok wr) ∧ Hid (x.m = Js.last r) ∧ Hid (RT wr rb l' bad off) ∧ Hid (Fr (· = rb) w wr) ∧ l'.length ≤ 6000 ∧ Hid (more = true → r.length + l'.length ≤ 6000) ∧ Hid (more = true → bad = false ∧ l'.length ≤ k ∧ T = Bn.pre r (Js.items 125 Js.memS (k + 1) l' off)) ∧ Hid (more = false → T = if bad = true then none else some (r, l', off))) (fun _ _ _ mv wr => moreN mv * (1 + rtM wr rb))
  case atStart => exact ⟨(Tx.bare l).length, [], l1, b1, false, more1, nil3, rfl, rfl, rfl, rfl, nil3_ok _, rfl, h1, u1, by omega, fun _ => by simp; omega, HT1.out, HT2.out⟩
  case round =>
    obtain ⟨wo, hw⟩ : ∃ x, x = wr := ⟨_, rfl⟩
    subst hw
    obtain ⟨k, r, l2, bad, off, more, x, rfl, rfl, rfl, rfl, HX, HLS, HI, HF, hl2, HSM, H1, H2⟩ := hrel
    have hl26 : l2.length ≤ 6000 := by omega
    have HTL := hide (Js.types_le r)
    have HPL := hide (Js.places_le r)
    obtain ⟨tn, htn⟩ : ∃ t, t = Js.types r := ⟨_, rfl⟩
    obtain ⟨pn, hpn⟩ : ∃ t, t = (Js.places r).length := ⟨_, rfl⟩
    rw [← htn, ← hpn]
    rw [← htn] at HTL
    rw [← hpn] at HPL
    have HTN := hide htn
    have HPN := hide hpn
    clear htn hpn
    obtain ⟨xv, ps⟩ := x
    obtain ⟨xa, xn, xc, rfl⟩ : ∃ a n c, xv = .slice a n c := own_shape HX.out.row
    cases more
    · have HE := hide (H2.out rfl)
      have HSet := hide (Js.set_of (HTE.out.symm.trans HE.out))
      rw [← HLS.out] at HSet
      have HFit : Hid (Js.fit r = (tn == 1 && pn == 1)) := by
        show _ = _
        rw [HTN.out, HPN.out]; rfl
      rw [HFit.out] at HSet
      clear H1 H2 HSM
      obtain ⟨c0, c1, c2, f0, f1, f2⟩ := HI.out.facts
      clear c0 c2 f0 f2
      by_cases ht : tn = 1
      · by_cases hp : pn = 1
        · subst ht hp
          go_wp2
          go_ret
          exact ⟨⟨.slice xa xn xc, ps⟩, l2, bad, off, rfl, HX.out, HI.out, HF.out, by rw [HSet.out]; simp, hl26⟩
        · subst ht
          have hp2 : ((pn : Int) != 1) = true := bne_iff_ne.2 (by omega)
          have HNF : Hid ((pn == 1) = false) := beq_eq_false_iff_ne.2 hp
          go_wp2
          go_ret
          exact ⟨⟨.slice xa xn xc, ps⟩, l2, true, off, rfl, HX.out.rt HI.out ((Fr.refl (· = rb) _).setCell (p := ⟨rb, 1, none⟩) rfl _), HI.out.bad true, HF.out.setCell (p := ⟨rb, 1, none⟩) rfl _, by rw [HSet.out, HNF.out]; simp, hl26⟩
      · have ht2 : ((tn : Int) != 1) = true := bne_iff_ne.2 (by omega)
        have HNF : Hid ((tn == 1) = false) := beq_eq_false_iff_ne.2 ht
        go_wp2
        go_ret
        exact ⟨⟨.slice xa xn xc, ps⟩, l2, true, off, rfl, HX.out.rt HI.out ((Fr.refl (· = rb) _).setCell (p := ⟨rb, 1, none⟩) rfl _), HI.out.bad true, HF.out.setCell (p := ⟨rb, 1, none⟩) rfl _, by rw [HSet.out, HNF.out]; simp, hl26⟩
    · obtain ⟨hbf, hk, HT⟩ := H1.out rfl
      subst hbf
      have hsm := HSM.out rfl
      have htl := HTL.out
      have hpl := HPL.out
      replace HT := hide HT
      clear H1 H2 HSM
      go_wp2_with fail
      refine (memberName_any l2 false off rb _ HI.out hl26).mono ?_
      rintro e w2 ⟨nv, c, l3, b3, rfl, ho, h3, u3, p3, hl3, hcl⟩
      obtain ⟨na, nn, nc, rfl⟩ : ∃ a n c, nv = .slice a n c := own_shape ho
      have HX3 := hide (HX.out.rt HI.out u3)
      have HS1 := hide (same_any c [116, 121, 112, 101] _ _ w2 ho hcl (by simp))
      have HS2 := hide (fun n => same_any c [99, 111, 111, 114, 100, 105, 110, 97, 116, 101, 115] _ _ (w2.drewN n) (own_up ho ((Up.refl _).drewN n)) hcl (by simp))
      have hl36 : l3.length ≤ 6000 := by omega
      replace p3 : Hid (Js.name l2 = if b3 = true then none else some (c, l3)) := p3
      replace h3 := hide h3
      replace u3 := hide u3
      clear ho
      by_cases hc1 : c = Js.typeN
      · have HD : Hid (decide (c = Js.up [116, 121, 112, 101]) = true) := by rw [hc1]; rfl
        rw [HD.out] at HS1
        have HC := hide hc1
        clear hc1
        go_wp2_with fail
        refine HS1.out.mono ?_
        rintro e w3 ⟨rfl, n, rfl⟩
        have HR3 : Hid (RT (w2.drewN n) rb l3 b3 off) := VRow.drewN h3.out n
        go_wp2_with fail
        refine (typeValue_any l3 b3 off rb _ HR3.out hl36).mono ?_
        rintro e w4 ⟨l4, b4, rfl, h4, u4, p4, hl4⟩
        have HU4 : Hid (Fr (· = rb) w w4) := ((HF.out.trans u3.out).drewN n).trans u4
        have HX4 : Hid (L3.ok w4 ⟨.slice xa xn xc, ps⟩) := (HX3.out.up ((Up.refl _).drewN n)).rt HR3.out u4
        have HP : Hid ((if false = true then none else Js.memS l2 off) = if b4 = true then none else some (Js.M.type, l4, off)) := by
          refine Js.memS_of p3.out ?_
          rw [HC.out, Js.memV_type]
          exact Js.bad_map (R := (none : Option (Js.M × List UInt8 × Bool))) p4
        have HLT : Hid (b4 = false → l4.length + 1 ≤ l2.length) := fun e => by
          have h := HP.out
          rw [e] at h
          exact (Js.memS_lt l2 off _ _ _ h).1
        have hl46 : l4.length ≤ 6000 := by omega
        replace h4 := hide h4
        clear u4 p4
        obtain ⟨hg1, hg2⟩ := Js.go_on (e := 125) (bad := false) HT.out HP.out
        replace hg1 := hide hg1
        replace hg2 := hide hg2
        have HN := hide (nextE_any 125 l4 b4 off rb w4 h4.out (by omega))
        go_wp2_with fail
        refine HN.out.mono ?_
        rintro e w6 ⟨l6, b6, rfl, h6, u6, hl6, hn1, hn2⟩
        obtain ⟨M, hM⟩ : ∃ M, M = (!b4 && Tx.pre [44] (Tx.bare l4)) := ⟨_, rfl⟩
        rw [← hM] at hn1 hn2 hg1 hg2 ⊢
        have HX6 := hide (HX4.out.rt h4.out u6)
        replace hn1 := hide hn1
        replace hn2 := hide hn2
        have HMM := hide hM
        replace h6 := hide h6
        replace u6 := hide u6
        clear hM
        go_wp2
        go_roundw
        case rel =>
          refine ⟨k - 1, r ++ [Js.M.type], l6, b6, off, M, ⟨.slice xa xn xc, ps⟩, rfl, by rw [Js.types_snoc, ← HTN.out]; rfl, by rw [Js.places_type, ← HPN.out], rfl, HX6, HLS.out.trans (Js.last_type r).symm, h6, HU4.out.trans u6.out, by omega, ?_, fun e => ?_, fun e => ?_⟩
          · intro e
            have a4 : b4 = false ∧ Tx.pre [44] (Tx.bare l4) = true := more_and (HMM.out.symm.trans e)
            have a5 := Wt.aft_len a4.2
            have a6 := Tx.bare_le l4
            have a7 := HLT.out a4.1
            have a8 := (hn1.out e).2
            rw [← a8] at a5
            simp
            omega
          · obtain ⟨a1, a2⟩ := hn1.out e
            have a3 := hg1.out e
            have a4 : b4 = false ∧ Tx.pre [44] (Tx.bare l4) = true := more_and (HMM.out.symm.trans e)
            have a5 := Wt.aft_len a4.2
            have a6 := Tx.bare_le l4
            have a7 := HLT.out a4.1
            rw [← a2] at a3 a5
            refine ⟨a1, by omega, ?_⟩
            rw [show k - 1 + 1 = k by omega]
            exact a3
          · obtain ⟨a1, a2⟩ := hn2.out e
            have a3 := hg2.out e
            rw [← a1] at a3
            rw [a3]
            cases b6
            · rw [a2 rfl]
            · rfl
        case measure =>
          rw [rtM_of h6.out, rtM_of HI.out]
          cases M
          · cases b6 <;> simp [moreN] <;> omega
          · have a4 : b4 = false ∧ Tx.pre [44] (Tx.bare l4) = true := more_and HMM.out.symm
            have a7 := HLT.out a4.1
            cases b6 <;> simp [moreN] <;> omega
      · have HD : Hid (decide (c = Js.up [116, 121, 112, 101]) = false) := decide_eq_false hc1
        rw [HD.out] at HS1
        by_cases hc2 : c = Js.listN
        · have HD2 : Hid (decide (c = Js.up [99, 111, 111, 114, 100, 105, 110, 97, 116, 101, 115]) = true) := by rw [hc2]; rfl
          have HS2' := HS2
          unfold Hid at HS2'
          rw [HD2.out] at HS2'
          replace HS2' := hide HS2'
          have HC := hide hc2
          clear hc1 hc2 HS2
          go_wp2_with fail
          refine HS1.out.mono ?_
          rintro e w3 ⟨rfl, n, rfl⟩
          go_wp2_with fail
          refine (HS2'.out n).mono ?_
          rintro e w3 ⟨rfl, n2, rfl⟩
          have HR3 : Hid (RT (w2.drewN (n + n2)) rb l3 b3 off) := VRow.drewN h3.out (n + n2)
          go_wp2_with fail
          refine (jPls_any l3 b3 off rb _ HR3.out hl36).mono ?_
          rintro e w4 ⟨⟨yv, qs⟩, l4, b4, o4, rfl, hy, h4, u4, p4, hl46⟩
          obtain ⟨ya, yn, yc, rfl⟩ : ∃ a n c, yv = .slice a n c := own_shape hy.row
          have HU4 : Hid (Fr (· = rb) w w4) := ((HF.out.trans u3.out).drewN (n + n2)).trans u4
          have HX4 : Hid (L3.ok w4 ⟨.slice ya yn yc, qs⟩) := hy
          have HP : Hid ((if false = true then none else Js.memS l2 off) = if b4 = true then none else some (Js.M.coords (L3.m ⟨.slice ya yn yc, qs⟩), l4, o4)) := by
            refine Js.memS_of p3.out ?_
            rw [HC.out, Js.memV_list]
            exact Js.bad_map (R := (none : Option (Js.M × List UInt8 × Bool))) (f := fun y => (Js.M.coords y.1, y.2)) p4
          have HLT : Hid (b4 = false → l4.length + 1 ≤ l2.length) := fun e => by
            have h := HP.out
            rw [e] at h
            exact (Js.memS_lt l2 off _ _ _ h).1
          replace h4 := hide h4
          clear u4 p4 hy
          obtain ⟨hg1, hg2⟩ := Js.go_on (e := 125) (bad := false) HT.out HP.out
          replace hg1 := hide hg1
          replace hg2 := hide hg2
          have HN := hide (nextE_any 125 l4 b4 o4 rb w4 h4.out (by omega))
          go_wp2_with fail
          refine HN.out.mono ?_
          rintro e w6 ⟨l6, b6, rfl, h6, u6, hl6, hn1, hn2⟩
          obtain ⟨M, hM⟩ : ∃ M, M = (!b4 && Tx.pre [44] (Tx.bare l4)) := ⟨_, rfl⟩
          rw [← hM] at hn1 hn2 hg1 hg2 ⊢
          have HX6 := hide (HX4.out.rt h4.out u6)
          replace hn1 := hide hn1
          replace hn2 := hide hn2
          have HMM := hide hM
          replace h6 := hide h6
          replace u6 := hide u6
          clear hM
          go_wp2
          go_roundw
          case rel =>
            refine ⟨k - 1, r ++ [Js.M.coords (L3.m ⟨.slice ya yn yc, qs⟩)], l6, b6, o4, M, ⟨.slice ya yn yc, qs⟩, rfl, by rw [Js.types_snoc, ← HTN.out]; rfl, by rw [Js.places_coords, List.length_append, ← HPN.out]; rfl, rfl, HX6, (Js.last_coords r _).symm, h6, HU4.out.trans u6.out, by omega, ?_, fun e => ?_, fun e => ?_⟩
            · intro e
              have a4 : b4 = false ∧ Tx.pre [44] (Tx.bare l4) = true := more_and (HMM.out.symm.trans e)
              have a5 := Wt.aft_len a4.2
              have a6 := Tx.bare_le l4
              have a7 := HLT.out a4.1
              have a8 := (hn1.out e).2
              rw [← a8] at a5
              simp
              omega
            · obtain ⟨a1, a2⟩ := hn1.out e
              have a3 := hg1.out e
              have a4 : b4 = false ∧ Tx.pre [44] (Tx.bare l4) = true := more_and (HMM.out.symm.trans e)
              have a5 := Wt.aft_len a4.2
              have a6 := Tx.bare_le l4
              have a7 := HLT.out a4.1
              rw [← a2] at a3 a5
              refine ⟨a1, by omega, ?_⟩
              rw [show k - 1 + 1 = k by omega]
              exact a3
            · obtain ⟨a1, a2⟩ := hn2.out e
              have a3 := hg2.out e
              rw [← a1] at a3
              rw [a3]
              cases b6
              · rw [a2 rfl]
              · rfl
          case measure =>
            rw [rtM_of h6.out, rtM_of HI.out]
            cases M
            · cases b6 <;> simp [moreN] <;> omega
            · have a4 : b4 = false ∧ Tx.pre [44] (Tx.bare l4) = true := more_and HMM.out.symm
              have a7 := HLT.out a4.1
              cases b6 <;> simp [moreN] <;> omega
        · have HD2 : Hid (decide (c = Js.up [99, 111, 111, 114, 100, 105, 110, 97, 116, 101, 115]) = false) := decide_eq_false hc2
          have HS2' := HS2
          unfold Hid at HS2'
          rw [HD2.out] at HS2'
          replace HS2' := hide HS2'
          have HC1 := hide hc1
          have HC2 := hide hc2
          clear hc1 hc2 HS2
          go_wp2_with fail
          refine HS1.out.mono ?_
          rintro e w3 ⟨rfl, n, rfl⟩
          go_wp2_with fail
          refine (HS2'.out n).mono ?_
          rintro e w3 ⟨rfl, n2, rfl⟩
          have HR3 : Hid (RT (w2.drewN (n + n2)) rb l3 b3 off) := VRow.drewN h3.out (n + n2)
          go_wp2_with fail
          refine (value_any 16 (Nat.le_refl _) l3 b3 off rb _ HR3.out hl36).mono ?_
          rintro e w4 ⟨v, l4, b4, rfl, h4, u4, p4, hl4⟩
          have HU4 : Hid (Fr (· = rb) w w4) := ((HF.out.trans u3.out).drewN (n + n2)).trans u4
          have HX4 : Hid (L3.ok w4 ⟨.slice xa xn xc, ps⟩) := (HX3.out.up ((Up.refl _).drewN (n + n2))).rt HR3.out u4
          have HP : Hid ((if false = true then none else Js.memS l2 off) = if b4 = true then none else some (Js.M.other, l4, off)) := by
            refine Js.memS_of p3.out ?_
            rw [Js.memV_other HC1.out HC2.out]
            exact Js.bad_map (R := (none : Option (Js.M × List UInt8 × Bool))) (f := fun y => (Js.M.other, y.2, off)) p4
          have HLT : Hid (b4 = false → l4.length + 1 ≤ l2.length) := fun e => by
            have h := HP.out
            rw [e] at h
            exact (Js.memS_lt l2 off _ _ _ h).1
          have hl46 : l4.length ≤ 6000 := by omega
          replace h4 := hide h4
          clear u4 p4
          obtain ⟨hg1, hg2⟩ := Js.go_on (e := 125) (bad := false) HT.out HP.out
          replace hg1 := hide hg1
          replace hg2 := hide hg2
          have HN := hide (nextE_any 125 l4 b4 off rb w4 h4.out (by omega))
          go_wp2_with fail
          refine HN.out.mono ?_
          rintro e w6 ⟨l6, b6, rfl, h6, u6, hl6, hn1, hn2⟩
          obtain ⟨M, hM⟩ : ∃ M, M = (!b4 && Tx.pre [44] (Tx.bare l4)) := ⟨_, rfl⟩
          rw [← hM] at hn1 hn2 hg1 hg2 ⊢
          have HX6 := hide (HX4.out.rt h4.out u6)
          replace hn1 := hide hn1
          replace hn2 := hide hn2
          have HMM := hide hM
          replace h6 := hide h6
          replace u6 := hide u6
          clear hM
          go_wp2
          go_roundw
          case rel =>
            refine ⟨k - 1, r ++ [Js.M.other], l6, b6, off, M, ⟨.slice xa xn xc, ps⟩, rfl, by rw [Js.types_snoc, ← HTN.out]; rfl, by rw [Js.places_other, ← HPN.out], rfl, HX6, HLS.out.trans (Js.last_other r).symm, h6, HU4.out.trans u6.out, by omega, ?_, fun e => ?_, fun e => ?_⟩
            · intro e
              have a4 : b4 = false ∧ Tx.pre [44] (Tx.bare l4) = true := more_and (HMM.out.symm.trans e)
              have a5 := Wt.aft_len a4.2
              have a6 := Tx.bare_le l4
              have a7 := HLT.out a4.1
              have a8 := (hn1.out e).2
              rw [← a8] at a5
              simp
              omega
            · obtain ⟨a1, a2⟩ := hn1.out e
              have a3 := hg1.out e
              have a4 : b4 = false ∧ Tx.pre [44] (Tx.bare l4) = true := more_and (HMM.out.symm.trans e)
              have a5 := Wt.aft_len a4.2
              have a6 := Tx.bare_le l4
              have a7 := HLT.out a4.1
              rw [← a2] at a3 a5
              refine ⟨a1, by omega, ?_⟩
              rw [show k - 1 + 1 = k by omega]
              exact a3
            · obtain ⟨a1, a2⟩ := hn2.out e
              have a3 := hg2.out e
              rw [← a1] at a3
              rw [a3]
              cases b6
              · rw [a2 rfl]
              · rfl
          case measure =>
            rw [rtM_of h6.out, rtM_of HI.out]
            cases M
            · cases b6 <;> simp [moreN] <;> omega
            · have a4 : b4 = false ∧ Tx.pre [44] (Tx.bare l4) = true := more_and HMM.out.symm
              have a7 := HLT.out a4.1
              cases b6 <;> simp [moreN] <;> omega

set_option maxRecDepth 100000 in
set_option maxHeartbeats 1000000 in
theorem jRead_any (l : List UInt8) (w : World) (hl : l.length ≤ 6000) :
    Calls Try.prog 14 #[.string (bs l)] w (ReadPost (Js.err l) (Js.got l) w) := by
  have hnew := VRow.new w [.string (bs l), .bool false, .bool false] 53
  have HS := hide (jSet_any l w.heap.size _ hnew hl)
  clear hnew
  unfold ReadPost
  go_enter Try.func14, Try.ntmps14
  go_wp2_with fail
  refine HS.out.mono ?_
  rintro e w1 ⟨⟨xv, ps⟩, t, bad, off, rfl, hx, h1, u1, hp, ht⟩
  obtain ⟨xa, xn, xc, rfl⟩ : ∃ a n c, xv = .slice a n c := own_shape hx.row
  have HU : Hid (Up w w1) := ((Fr.of_up ((Up.refl w).alloc _)).then u1 (T := (· = w.heap.size)) (S := fun x => w.heap.size ≤ x) (fun x _ e => by omega)).up (fun x hx => by omega)
  have HE := hide (Js.err_of hp)
  have HG := hide (fun h => Js.got_of hp h)
  have HX := hide hx
  have HRT := hide h1
  clear hx h1 u1 hp
  obtain ⟨F, hF⟩ : ∃ F, F = Tx.fin (Tx.bare t) bad off := ⟨_, rfl⟩
  have HA := hide (answer_any t bad off w.heap.size xa xn xc w1 HRT.out ht)
  rw [← hF] at HE HA
  have HFF := hide hF
  clear hF
  go_wp2_with fail
  refine HA.out.mono ?_
  rintro e w2 ⟨rfl, u2⟩
  have HU2 : Hid (Up w w2) := ((Fr.of_up HU.out).then u2 (T := (· = w.heap.size)) (S := fun x => w.heap.size ≤ x) (fun x _ e => by omega)).up (fun x hx => by omega)
  have HX2 : Hid (L3.ok w2 ⟨.slice xa xn xc, ps⟩) := HX.out.fr u2 (fun b hb e => HX.out.row_ne HRT.out (by decide) (by decide) (by decide) (e ▸ hb))
  clear u2
  by_cases h0 : F = 0
  · rw [if_pos h0]
    have HH0 := hide h0
    clear h0
    go_wp2
    go_ret2
    exact ⟨⟨.slice xa xn xc, ps⟩, by rw [HE.out]; rfl, HX2.out, fun _ => (HG.out (Wt.fin_bad (HFF.out.symm.trans HH0.out))).symm, HU2.out⟩
  · rw [if_neg h0]
    have HH0 := hide h0
    clear h0
    go_wp2
    go_ret2
    exact ⟨nil3, by rw [HE.out]; rfl, nil3_ok _, (fun e => absurd (HE.out.symm.trans e) HH0.out), HU2.out⟩

set_option maxHeartbeats 1000000 in
theorem read2_any (l : List UInt8) (w : World) (hl : l.length ≤ 6000) :
    Calls Try.prog 10 #[.int .i64 2, .string (bs l)] w (ReadPost (Js.err l) (Js.got l) w) := by
  unfold ReadPost
  go_enter Try.func10, Try.ntmps10
  go_wp2_with (go_at_call 14; refine (jRead_any l _ hl).mono ?_; rintro e w1 ⟨X, rfl, h⟩; replace h := hide h)
  go_ret2
  exact ⟨X, rfl, h.out⟩
end Go.Proofs.Ytcclepohmhdpbaa
