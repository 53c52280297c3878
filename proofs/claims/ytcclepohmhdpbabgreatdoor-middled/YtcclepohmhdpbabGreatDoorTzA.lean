import Derived.Test.YtcclepohmhdpbabGreatDoorPtC
namespace Go.Proofs.YtcclepohmhdpbabGreatDoor
set_option linter.all false
open Go.RowKit Go.Deep
set_option maxHeartbeats 2000000 in
theorem alike_c (p q : Value) (m : Mult) (w : World) (b b2 : Nat) (u u2 : Value) (hs : SetR w p m b u) (hs2 : SetR w q m b2 u2) (hb : Pl.Bd m) :
  Calls Tryz.prog 18 #[p, q] w fun e w' => e = .returned (.bool true) ∧ Up w w' := by
 have HS := hide hs
 have HS2 := hide hs2
 have HB := hide hb
 obtain ⟨rfl, -⟩ := hs
 obtain ⟨rfl, -⟩ := hs2
 clear hb
 go_enter Tryz.func18, Tryz.ntmps18
 go_wp2_with fail
 refine (points_c _ m _ b u HS.out HB.out).mono ?_
 rintro e w1 ⟨d3, rfl, hd3, hm3, -, -, -, u1⟩
 have hv3 : d3.v = .slice (some ⟨d3.b, 0, none⟩) d3.ps.length (d3.ps.length + d3.s.length) := rfl
 rw [hv3]
 have HS21 := hide (HS2.out.up u1)
 have HR3 : Hid (Rd3 w1 (.slice (some ⟨d3.b, 0, none⟩) d3.ps.length (d3.ps.length + d3.s.length)) m) := by
  have := hd3.rd
  rw [hm3, hv3] at this
  exact this
 have HU1 := hide u1
 clear hd3 hm3 u1 hv3
 go_wp2_with fail
 refine (points_c _ m _ b2 u2 HS21.out HB.out).mono ?_
 rintro e w2 ⟨d4, rfl, hd4, hm4, -, -, -, u2⟩
 have hv4 : d4.v = .slice (some ⟨d4.b, 0, none⟩) d4.ps.length (d4.ps.length + d4.s.length) := rfl
 rw [hv4]
 have HR4 : Hid (Rd3 w2 (.slice (some ⟨d4.b, 0, none⟩) d4.ps.length (d4.ps.length + d4.s.length)) m) := by
  have := hd4.rd
  rw [hm4, hv4] at this
  exact this
 have HR32 := hide (HR3.out.up u2)
 have HU2 := hide u2
 clear hd4 hm4 u2 hv4
 go_wp2_with fail
 refine (ksame_any _ _ m _ HR32.out HR4.out HB.out).mono ?_
 rintro e w3 ⟨rfl, n, hw3⟩
 have HU3 : Hid (Up w w3) := by rw [hw3]; exact ((HU1.out.trans HU2.out).drewN n)
 clear hw3
 go_wp2
 go_ret
 exact ⟨rfl, HU3.out⟩
structure Oth (ex : Bool) (m m' : Mult) : Prop where
 ok : Pl.wrong m' = 0
 ls : ex = true → Vd.least m' = Vd.least m
 l0 : Vd.least m' = 0 ↔ Vd.least m = 0
 fm : Vd.least m = 0 → Vd.form m' = Vd.form m
set_option maxRecDepth 100000 in
set_option maxHeartbeats 8000000 in
theorem other_any (bd b : Nat) (m m' : Mult) (d : D3) (v : Value) (ex : Bool) (w : World) (hrow : VRow w bd 36 [.pointer (some ⟨b, 0, none⟩)]) (hs : SetR w (.pointer (some ⟨b, 0, none⟩)) m b d.v) (hw : Pl.wrong m = 0) (ht : TabD w)
  (hv : Rd3 w v m') (hb : Pl.Bd m') (ho : (Pl.wrong m' = 4 ∨ Pl.wrong m' = 6) ∨ Oth ex m m') :
  Calls Tryz.prog 23 #[.pointer (some ⟨bd, 0, none⟩), v, .bool ex] w fun e w' => e = .returned (.bool true) ∧ Up w w' := by
 have HTb := hide ht
 have HR := hide hrow
 have HS := hide hs
 have HW := hide hw
 have HZ := hide (sz_of hw)
 have HRd := hide hv
 obtain ⟨ao, cap, rfl, -⟩ := hv
 clear ht hs hw hrow
 rcases ho with h4 | ho
 ·have KM := hide (make_bad _ _ w HRd.out hb (by rcases h4 with h | h <;> rw [h] <;> decide))
  rcases h4 with h4 | h4
  ·rw [h4] at KM
   clear h4 hb
   go_enter Tryz.func23, Tryz.ntmps23
   go_wp2_with fail
   refine KM.out.mono ?_
   rintro e w5 ⟨rfl, hu⟩
   have HU := hide hu
   clear hu KM
   go_wp2
   go_ret
   exact ⟨rfl, HU.out⟩
  ·rw [h4] at KM
   clear h4 hb
   go_enter Tryz.func23, Tryz.ntmps23
   go_wp2_with fail
   refine KM.out.mono ?_
   rintro e w5 ⟨rfl, hu⟩
   have HU := hide hu
   clear hu KM
   go_wp2
   go_ret
   exact ⟨rfl, HU.out⟩
 ·have HO := hide ho
  have KM := hide (make_ok _ _ w HRd.out hb ho.ok)
  clear ho hb
  go_enter Tryz.func23, Tryz.ntmps23
  go_wp2_with fail
  refine KM.out.mono ?_
  rintro e w5 ⟨q, b2, d2, rfl, hs2, -, hu⟩
  have HX2 := hide hs2.r
  have eq := hs2.ptr
  subst eq
  have HU := hide hu
  clear hs2 hu KM
  have HZ2 := hide (sz_of HO.out.ok)
  have HX1 := hide (HS.out.up HU.out)
  have r0 := HU.out.cell (HR.out.cell (i := 0) rfl)
  have KV1 := hide (validate_any _ m w5 b _ HX1.out HZ.out)
  go_wp2_with fail
  refine KV1.out.mono ?_
  rintro e w6 ⟨rfl, hu⟩
  replace HU := hide (HU.out.trans hu)
  replace HX2 := hide (HX2.out.up hu)
  clear hu r0 KV1 HX1
  have KV2 := hide (validate_any _ _ w6 b2 _ HX2.out HZ2.out)
  go_wp2_with fail
  refine KV2.out.mono ?_
  rintro e w7 ⟨rfl, hu⟩
  replace HU := hide (HU.out.trans hu)
  replace HX2 := hide (HX2.out.up hu)
  clear hu KV2
  by_cases hl : Vd.least m = 0
  ·have HLe := hide hl
   have HLe2 : Hid (Vd.least m' = 0) := HO.out.l0.2 hl
   rw [hl, HLe2.out]
   have HF := hide (HO.out.fm hl)
   clear hl
   have FZ1 := hide (fz_all HW.out HLe.out)
   have FZ2 := hide (fz_all HO.out.ok HLe2.out)
   have FA1 := hide (szA_of (Vd.form_wrong HW.out HLe.out))
   have FA2 := hide (szA_of (Vd.form_wrong HO.out.ok HLe2.out))
   have HX1 := hide (HS.out.up HU.out)
   have r0 := HU.out.cell (HR.out.cell (i := 0) rfl)
   have KC1 := hide (canon_r _ m w7 b _ HX1.out HZ.out FZ1.out HLe.out)
   cases ex <;> (
    go_wp2_with fail
    refine KC1.out.mono ?_
    rintro e w8 ⟨cb, cao, ccap, rfl, hc, hu⟩
    replace HU := hide (HU.out.trans hu)
    replace HX2 := hide (HX2.out.up hu)
    have HC1 := hide hc
    clear hu hc r0 KC1 HX1
    have KC2 := hide (canon_r _ _ w8 b2 _ HX2.out HZ2.out FZ2.out HLe2.out)
    go_wp2_with fail
    refine KC2.out.mono ?_
    rintro e w9 ⟨fb, fao, fcap, rfl, hc, hu⟩
    replace HU := hide (HU.out.trans hu)
    replace HX2 := hide (HX2.out.up hu)
    replace HC1 := hide (HC1.out.up hu)
    have HC2 := hide hc
    clear hu hc KC2
    have HX1 := hide (HS.out.up HU.out)
    have r0 := HU.out.cell (HR.out.cell (i := 0) rfl)
    have KSep := hide (separate_any _ _ m m' w9 b b2 _ _ HX1.out HX2.out HZ.out FZ1.out HLe.out HZ2.out FZ2.out HLe2.out FA1.out FA2.out (HTb.out.up HU.out))
    rw [HF.out, Vd.spot_self HW.out HLe.out] at KSep
    simp only [sepV] at KSep
    go_wp2_with fail
    refine KSep.out.mono ?_
    rintro e w14 ⟨rfl, hu⟩
    replace HU := hide (HU.out.trans hu)
    replace HC1 := hide (HC1.out.up hu)
    replace HC2 := hide (HC2.out.up hu)
    clear hu KSep r0 HX1
    rw [HF.out] at HC2
    have KA := hide (alike_c (.pointer (some ⟨cb, 0, none⟩)) (.pointer (some ⟨fb, 0, none⟩)) (Vd.form m) w14 cb fb _ _ ⟨rfl, HC1.out.cell, HC1.out.rd⟩ ⟨rfl, HC2.out.cell, HC2.out.rd⟩ (bd_sz FA1.out.sz))
    go_wp2_with fail
    refine KA.out.mono ?_
    rintro e w15 ⟨rfl, hu⟩
    replace HU := hide (HU.out.trans hu)
    clear hu KA
    go_wp2
    go_ret
    exact ⟨rfl, HU.out⟩)
  ·have hl' := beq_eq_false_iff_ne.2 hl
   have hln := bne_iff_ne.2 hl
   have hm : Vd.least m' ≠ 0 := fun e => hl (HO.out.l0.1 e)
   have hm' := beq_eq_false_iff_ne.2 hm
   have hls := HO.out.ls
   cases ex
   ·generalize Vd.least m = L at *
    generalize Vd.least m' = L' at *
    clear hls
    go_wp2
    go_ret
    exact ⟨rfl, HU.out⟩
   ·rw [hls rfl] at *
    generalize Vd.least m = L at *
    go_wp2
    go_ret
    exact ⟨rfl, HU.out⟩
end Go.Proofs.YtcclepohmhdpbabGreatDoor
