import Derived.Test.YtcclepohmhdpbabGreatDoorMvA
import Derived.Test.YtcclepohmhdpbabGreatDoorBdx
import Derived.Test.YtcclepohmhdpbabGreatDoorPnD
import Derived.Test.YtcclepohmhdpbabGreatDoorApI
import Derived.Test.YtcclepohmhdpbabGreatDoorClK
namespace Go.Proofs.YtcclepohmhdpbabGreatDoor
set_option linter.all false
open Go.RowKit Go.Deep
set_option maxRecDepth 100000 in
theorem pick2001_any (c : Int) (h1 : -9223372036854775808 ≤ c) (h2 : c ≤ 9223372036854775807) (w : World) :
    Calls Tryz.prog 14 #[.int .i64 c, .int .i64 2001] w fun e w' => ∃ i : Nat, e = .returned (.int .i64 i) ∧ i < 2001 ∧ w' = w := by
  by_cases h0 : c < 0
  · have e1 : wrap64 (c + 1) = c + 1 := by unfold wrap64; omega
    have e2 : wrap64 (-(c + 1)) = -(c + 1) := by unfold wrap64; omega
    go_enter Tryz.func14, Tryz.ntmps14
    go_wp2
    go_ret
    have hx : (-((c + 1).tmod 2001)) = (-(c + 1)) % 2001 := by rw [← Int.neg_tmod, Int.tmod_eq_emod_of_nonneg (by omega)]
    refine ⟨((-(c + 1)) % 2001).toNat, ?_, by omega, rfl⟩
    rw [Int.toNat_of_nonneg (by omega)]
    rw [← hx]; first | rfl | (rw [hx]; rfl)
  · go_enter Tryz.func14, Tryz.ntmps14
    go_wp2
    go_ret
    refine ⟨(c % 2001).toNat, ?_, by omega, rfl⟩
    rw [Int.toNat_of_nonneg (by omega)]
    first | rfl | rw [Int.tmod_eq_emod_of_nonneg (by omega)]
set_option maxHeartbeats 1000000 in
theorem points_c (v : Value) (m : Mult) (w : World) (b : Nat) (u : Value) (hs : SetR w v m b u) (hb : Pl.Bd m) :
    Calls Tryz.prog 20 #[v] w fun e w' => ∃ d' : D3, e = .returned d'.v ∧ OK3 w' d' ∧ d'.m = m ∧ d'.bare ∧ d'.bl.Nodup ∧ (∀ b ∈ d'.bl, w.heap.size ≤ b) ∧ Up w w' := by
  obtain ⟨rfl, hc, hr⟩ := hs
  have HR := hide hr
  obtain ⟨ao, cap, rfl, -⟩ := hr
  have hb' := hide hb
  have hc' := VRow.cell hc (i := 0) rfl
  clear hc hb
  go_enter Tryz.func20, Tryz.ntmps20
  go_wp2_with (go_at_call 36; refine (copy_any _ m _ ?_ ?_).mono ?_; exact HR.out; exact hb'.out; rintro e w2 ⟨d', rfl, h⟩; replace h := hide h)
  go_ret
  exact ⟨d', rfl, h.out⟩
theorem fr_up {w w1 w2 : World} {L : List Nat} (h1 : Up w w1) (hL : ∀ b ∈ L, w.heap.size ≤ b) (h2 : Fr (fun x => x ∈ L) w1 w2) : Up w w2 :=
  Fr.up (S := fun x => x ∈ L) ((Fr.of_up h1).trans h2) fun x hx hm => by have := hL x hm; omega
theorem cd_pts {m : Mult} (h : Sz m) : ∀ l ∈ m, ∀ r ∈ l, ∀ p ∈ r, (-1048576 ≤ p.1 ∧ p.1 ≤ 1048576) ∧ -1048576 ≤ p.2 ∧ p.2 ≤ 1048576 := fun l hl r hr p hp => by
  have := h.cd l hl r hr p hp
  unfold Vd.Cd at this
  omega
theorem bd_sz {m : Mult} (hz : Sz m) : Pl.Bd m := ⟨hz.len, hz.poly, fun l hl r hr => by have := hz.ring l hl r hr; omega⟩
theorem fz_all {m : Mult} (h0 : Pl.wrong m = 0) (hl : Vd.least m = 0) : FZ m := by
  have hz := sz_of h0
  have hv := Vd.vr_of (Vd.good_of h0) (Vd.least0 hl).1
  exact ⟨hz.len, hz.poly, fun l hl r hr => ⟨hz.ring l hl r hr, hz.cd l hl r hr, by have := (hv l hl r hr).corners_three; omega⟩⟩
set_option maxRecDepth 100000 in
set_option maxHeartbeats 8000000 in
theorem moved_any (bd b : Nat) (m : Mult) (d : D3) (A B : Int) (hA1 : -9223372036854775808 ≤ A) (hA2 : A ≤ 9223372036854775807) (hB1 : -9223372036854775808 ≤ B) (hB2 : B ≤ 9223372036854775807) (w : World) (hrow : VRow w bd 36 [.pointer (some ⟨b, 0, none⟩)]) (hs : Set3 w (.pointer (some ⟨b, 0, none⟩)) m b d) (hw : Pl.wrong m = 0) (ht : TabD w) :
    Calls Tryz.prog 12 #[.pointer (some ⟨bd, 0, none⟩), .int .i64 A, .int .i64 B] w fun e w' => e = .returned (.bool true) ∧ Up w w' := by
  have HTb := hide ht
  have HR := hide hrow
  have HS := hide hs.r
  have HW := hide hw
  have hz := sz_of hw
  have HZ := hide hz
  have HBd := hide (bd_sz hz)
  clear ht hs hw hz
  go_enter Tryz.func12, Tryz.ntmps12
  go_wp2_with fail
  refine (pick2001_any A hA1 hA2 _).mono ?_
  rintro e w1 ⟨i, rfl, hi, hw1⟩
  rw [hw1]
  clear hw1
  have i1 : wrap64 ((i : Int) - 1000) = (i : Int) - 1000 := w64 (by omega) (by omega)
  have j1 : -1048576 ≤ (i : Int) - 1000 := by omega
  have j2 : (i : Int) - 1000 ≤ 1048576 := by omega
  go_wp2_with fail
  refine (pick2001_any B hB1 hB2 _).mono ?_
  rintro e w2 ⟨i', rfl, hi', hw2⟩
  rw [hw2]
  clear hw2
  have i2 : wrap64 ((i' : Int) - 1000) = (i' : Int) - 1000 := w64 (by omega) (by omega)
  have j3 : -1048576 ≤ (i' : Int) - 1000 := by omega
  have j4 : (i' : Int) - 1000 ≤ 1048576 := by omega
  clear hA1 hA2 hB1 hB2
  have r0 := hrow.cell (i := 0) rfl
  have KP := hide (points_c _ m w b d.v HS.out HBd.out)
  go_wp2_with fail
  generalize (i : Int) - 1000 = a at *
  generalize (i' : Int) - 1000 = c at *
  refine KP.out.mono ?_
  rintro e w3 ⟨d', rfl, hok, hm', -, hnd, hbl, hu⟩
  have KSh := hide (shifted_any d' a c w3 hok hnd (by rw [hm']; exact HBd.out) j1 j2 j3 j4 (by rw [hm']; exact cd_pts HZ.out))
  rw [hm'] at KSh
  have hml : d'.ps.length = m.length := by rw [← hm']; simp [D3.m]
  have HUp : Hid (∀ w4, Fr (fun x => x ∈ d'.bl) w3 w4 → Up w w4) := fun w4 h => fr_up hu hbl h
  clear hok hnd hbl hu hm' KP r0 hrow
  go_wp2_with fail
  refine KSh.out.mono ?_
  rintro e w4 ⟨rfl, hfr, hrd⟩
  have HU := hide (HUp.out w4 hfr)
  have HRd := hide hrd
  clear hfr hrd KSh HUp
  rw [D3.v, hml] at *
  generalize d'.b = db at *
  generalize m.length + d'.s.length = dc at *
  clear hml
  have HBm := hide (Vd.bd_mv HBd.out (a, c))
  rcases Vd.wrong_mv HW.out (a, c) with h0 | h4
  · have KM := hide (make_ok _ _ w4 HRd.out HBm.out h0)
    have HW2 := hide h0
    clear h0
    go_wp2_with fail
    refine KM.out.mono ?_
    rintro e w5 ⟨q, b2, d2, rfl, hs2, -, hu⟩
    have HX2 := hide hs2.r
    have eq := hs2.ptr
    subst eq
    replace HU := hide (HU.out.trans hu)
    clear hs2 hu KM
    have HZ2 := hide (sz_of HW2.out)
    have HX1 := hide (HS.out.up HU.out)
    have r0 := HU.out.cell (HR.out.cell (i := 0) rfl)
    have KV1 := hide (validate_any _ m w5 b _ HX1.out HZ.out)
    go_wp2_with fail
    refine KV1.out.mono ?_
    rintro e w6 ⟨rfl, hu⟩
    replace HU := hide (HU.out.trans hu)
    replace HX2 := hide (HX2.out.up hu)
    clear hu r0 KV1 HX1
    have KV2 := hide (validate_any _ _ w6 b2 _ HX2.out HZ2.out)
    rw [Vd.least_mv] at KV2
    go_wp2_with fail
    refine KV2.out.mono ?_
    rintro e w7 ⟨rfl, hu⟩
    replace HU := hide (HU.out.trans hu)
    replace HX2 := hide (HX2.out.up hu)
    clear hu KV2
    by_cases hl : Vd.least m = 0
    · have HLe := hide hl
      have HLe2 : Hid (Vd.least (Vd.mvM (a, c) m) = 0) := by rw [Vd.least_mv]; exact hl
      rw [hl]
      clear hl
      have FZ1 := hide (fz_all HW.out HLe.out)
      have FZ2 := hide (fz_all HW2.out HLe2.out)
      have FA1 := hide (szA_of (Vd.form_wrong HW.out HLe.out))
      have FA2 := hide (szA_of (Vd.form_wrong HW2.out HLe2.out))
      have HX1 := hide (HS.out.up HU.out)
      have r0 := HU.out.cell (HR.out.cell (i := 0) rfl)
      have KC1 := hide (canon_r _ m w7 b _ HX1.out HZ.out FZ1.out HLe.out)
      go_wp2_with fail
      refine KC1.out.mono ?_
      rintro e w8 ⟨cb, cao, ccap, rfl, hc, hu⟩
      replace HU := hide (HU.out.trans hu)
      replace HX2 := hide (HX2.out.up hu)
      have HC1 := hide hc
      clear hu hc r0 KC1 HX1
      have KC2 := hide (canon_r _ _ w8 b2 _ HX2.out HZ2.out FZ2.out HLe2.out)
      go_wp2_with fail
      refine KC2.out.mono ?_
      rintro e w9 ⟨fb, fao, fcap, rfl, hc, hu⟩
      replace HU := hide (HU.out.trans hu)
      replace HX2 := hide (HX2.out.up hu)
      replace HC1 := hide (HC1.out.up hu)
      have HC2 := hide hc
      clear hu hc KC2
      have KP1 := hide (points_c (.pointer (some ⟨cb, 0, none⟩)) (Vd.form m) w9 cb _ ⟨rfl, HC1.out.cell, HC1.out.rd⟩ (bd_sz FA1.out.sz))
      go_wp2_with fail
      refine KP1.out.mono ?_
      rintro e w10 ⟨d3, rfl, hok, hm', -, hnd, hbl, hu⟩
      have KSh := hide (shifted_any d3 a c w10 hok hnd (by rw [hm']; exact bd_sz FA1.out.sz) j1 j2 j3 j4 (by rw [hm']; exact cd_pts FA1.out.sz))
      rw [hm'] at KSh
      have HUp : Hid (∀ w4, Fr (fun x => x ∈ d3.bl) w10 w4 → Up w9 w4) := fun w4 h => fr_up hu hbl h
      have hml : d3.ps.length = (Vd.form m).length := by rw [← hm']; simp [D3.m]
      clear hok hnd hbl hu hm' KP1
      go_wp2_with fail
      refine KSh.out.mono ?_
      rintro e w11 ⟨rfl, hfr, hrd⟩
      have hu := HUp.out w11 hfr
      replace HU := hide (HU.out.trans hu)
      replace HX2 := hide (HX2.out.up hu)
      replace HC2 := hide (HC2.out.up hu)
      rw [← Vd.form_mv] at hrd
      have HL := hide hrd
      clear hfr hrd KSh HUp hu
      rw [D3.v] at *
      generalize d3.b = eb at *
      generalize d3.ps.length + d3.s.length = ec at *
      generalize d3.ps.length = en at *
      clear hml
      have KP2 := hide (points_c (.pointer (some ⟨fb, 0, none⟩)) (Vd.form (Vd.mvM (a, c) m)) w11 fb _ ⟨rfl, HC2.out.cell, HC2.out.rd⟩ (bd_sz FA2.out.sz))
      go_wp2_with fail
      refine KP2.out.mono ?_
      rintro e w12 ⟨d4, rfl, hok, hm', -, hnd, hbl, hu⟩
      replace HU := hide (HU.out.trans hu)
      replace HX2 := hide (HX2.out.up hu)
      replace HL := hide (HL.out.up hu)
      have hrd4 := hok.rd
      rw [hm'] at hrd4
      have KS := hide (ksame_any _ _ _ w12 hrd4 HL.out (bd_sz FA2.out.sz))
      rw [D3.v] at KS
      clear hok hnd hbl hu hm' KP2 hrd4
      rw [D3.v]
      go_wp2_with fail
      refine KS.out.mono ?_
      rintro e w13 ⟨rfl, n, hw13⟩
      have hu : Up w12 w13 := by rw [hw13]; exact (Up.refl _).drewN n
      replace HU := hide (HU.out.trans hu)
      replace HX2 := hide (HX2.out.up hu)
      clear hw13 hu KS
      have HX1 := hide (HS.out.up HU.out)
      have r0 := HU.out.cell (HR.out.cell (i := 0) rfl)
      have KSep := hide (separate_any _ _ m (Vd.mvM (a, c) m) w13 b b2 _ _ HX1.out HX2.out HZ.out FZ1.out HLe.out HZ2.out FZ2.out HLe2.out FA1.out FA2.out (HTb.out.up HU.out))
      by_cases hst : (a = 0 ∧ c = 0) ∨ m.length = 0
      · have hsp : Vd.spot (Vd.form m) (Vd.form (Vd.mvM (a, c) m)) = none := by
          have e : Vd.mvM (a, c) m = m := by
            rcases hst with ⟨rfl, rfl⟩ | h
            · exact Vd.mvM_zero m
            · rw [List.eq_nil_of_length_eq_zero h]; rfl
          rw [e]; exact Vd.spot_self HW.out HLe.out
        rw [hsp] at KSep
        clear hsp
        simp only [sepV] at KSep
        go_wp2_with fail
        refine KSep.out.mono ?_
        rintro e w14 ⟨rfl, hu⟩
        replace HU := hide (HU.out.trans hu)
        clear hu KSep r0
        by_cases h1 : a = 0
        · by_cases h2 : c = 0
          · subst h1 h2
            go_wp2
            go_ret
            exact ⟨rfl, HU.out⟩
          · have hl0 : m.length = 0 := by rcases hst with g | g; exact absurd g.2 h2; exact g
            have h2' := beq_eq_false_iff_ne.2 h2
            subst h1
            rw [hl0] at *
            go_wp2
            go_ret
            exact ⟨rfl, HU.out⟩
        · have hl0 : m.length = 0 := by rcases hst with g | g; exact absurd g.1 h1; exact g
          have h1' := beq_eq_false_iff_ne.2 h1
          rw [hl0] at *
          go_wp2
          go_ret
          exact ⟨rfl, HU.out⟩
      · have hne : m ≠ [] := fun e => hst (.inr (by rw [e]; rfl))
        have hv : (a, c) ≠ ((0, 0) : Pnt) := fun e => hst (.inl ⟨congrArg Prod.fst e, congrArg Prod.snd e⟩)
        obtain ⟨q, hq⟩ := Option.ne_none_iff_exists'.1 (Vd.moved_parted hne HW.out HLe.out hv)
        rw [hq] at KSep
        simp only [sepV] at KSep
        clear hq hne
        generalize bs (Lib.itoa q.1.1) = t1 at *
        generalize bs (Lib.itoa q.1.2) = t2 at *
        generalize bs (Lib.itoa q.2) = t3 at *
        have hl0 : ((m.length : Int) == 0) = false := beq_eq_false_iff_ne.2 (by omega)
        go_wp2_with fail
        refine KSep.out.mono ?_
        rintro e w14 ⟨rfl, hu⟩
        replace HU := hide (HU.out.trans hu)
        clear hu KSep r0
        by_cases h1 : a = 0
        · have h2 : c ≠ 0 := fun e => hst (.inl ⟨h1, e⟩)
          have h2' := beq_eq_false_iff_ne.2 h2
          subst h1
          go_wp2
          go_ret
          exact ⟨rfl, HU.out⟩
        · have h1' := beq_eq_false_iff_ne.2 h1
          go_wp2
          go_ret
          exact ⟨rfl, HU.out⟩
    · have hl' := beq_eq_false_iff_ne.2 hl
      have hln := bne_iff_ne.2 hl
      generalize Vd.least m = L at *
      go_wp2
      go_ret
      exact ⟨rfl, HU.out⟩
  · have KM := hide (make_bad _ _ w4 HRd.out HBm.out (by rw [h4]; decide))
    rw [h4] at KM
    clear h4
    go_wp2_with fail
    refine KM.out.mono ?_
    rintro e w5 ⟨rfl, hu⟩
    replace HU := hide (HU.out.trans hu)
    clear hu KM
    go_wp2
    go_ret
    exact ⟨rfl, HU.out⟩
set_option maxHeartbeats 2000000 in
theorem lawmoved_any (c : Int) (h1 : -9223372036854775808 ≤ c) (h2 : c ≤ 9223372036854775807) (l : List UInt8) (A B : Int) (hA1 : -9223372036854775808 ≤ A) (hA2 : A ≤ 9223372036854775807) (hB1 : -9223372036854775808 ≤ B) (hB2 : B ≤ 9223372036854775807) (w : World) (ht : TabD w) :
    Calls Tryz.prog 6 #[.int .i64 c, .string (bs l), .int .i64 A, .int .i64 B] w fun e w' => e = .returned (.bool true) ∧ Up w w' := by
  have HK := hide (kread_any c h1 h2 l w)
  have HT := hide ht
  clear h1 h2 ht
  go_enter Tryz.func6, Tryz.ntmps6
  go_wp2_with fail
  refine HK.out.mono ?_
  rintro e w1 (⟨rfl, u1⟩ | ⟨bd, b, m, d, rfl, hrow, hs, hb, hw, u1⟩)
  · have HU := hide u1
    clear u1
    go_wp2
    go_ret
    exact ⟨rfl, HU.out⟩
  · have HR := hide (moved_any bd b m d A B hA1 hA2 hB1 hB2 w1 hrow hs hw (HT.out.up u1))
    have HU := hide u1
    clear u1 hrow hs hb hw hA1 hA2 hB1 hB2
    go_wp2_with fail
    refine HR.out.mono ?_
    rintro e w2 ⟨rfl, u2⟩
    have HU2 := hide (HU.out.trans u2)
    clear u2
    go_wp2
    go_ret
    exact ⟨rfl, HU2.out⟩
end Go.Proofs.YtcclepohmhdpbabGreatDoor
