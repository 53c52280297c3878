import Derived.Test.YtcclepohmhdpbabGreatDoorOwB
import Derived.Test.YtcclepohmhdpbabGreatDoorTzA
namespace Go.Proofs.YtcclepohmhdpbabGreatDoor
set_option linter.all false
open Go.RowKit Go.Deep
namespace Vd
theorem form_orn {m : Mult} (hv : ∀ l ∈ m, ∀ r ∈ l, VR r) (i : Nat) (l : Poly) (hl : (form m)[i]? = some l) (j : Nat) (r : Ring) (hr : l[j]? = some r) : Orn r (decide (j = 0)) := by
  have hm := Pl.mem_of_some hl
  unfold form at hm
  obtain ⟨l0, h0, rfl⟩ := List.mem_map.1 ((inOrder_perm _).mem_iff.1 hm)
  cases l0 with
  | nil => cases j <;> cases hr
  | cons s t =>
    have e1 : polyForm (s :: t) = ringForm s true :: (inOrder (holesF t)).flatten := rfl
    rw [e1] at hr
    cases j with
    | zero =>
      simp only [List.getElem?_cons_zero, Option.some.injEq] at hr
      rw [← hr]
      exact (hv _ h0 s (by simp)).orn true
    | succ k =>
      rw [List.getElem?_cons_succ] at hr
      obtain ⟨o, ho, rfl⟩ := List.mem_map.1 ((holes_perm t).mem_iff.1 (Pl.mem_of_some hr))
      rw [decide_eq_false (by omega)]
      exact (hv _ h0 o (by simp [ho])).orn false
end Vd
set_option maxRecDepth 100000 in
set_option maxHeartbeats 8000000 in
theorem kcanon_any (bd b : Nat) (m : Mult) (d : D3) (w : World) (hrow : VRow w bd 36 [.pointer (some ⟨b, 0, none⟩)]) (hs : Set3 w (.pointer (some ⟨b, 0, none⟩)) m b d) (hw : Pl.wrong m = 0) (ht : TabD w) :
  Calls Tryz.prog 9 #[.pointer (some ⟨bd, 0, none⟩)] w fun e w' => e = .returned (.bool true) ∧ Up w w' := by
 have HTb := hide ht
 have HR := hide hrow
 have HS := hide hs.r
 have HW := hide hw
 have HZ := hide (sz_of hw)
 clear ht hs hw
 have r0 := hrow.cell (i := 0) rfl
 by_cases hl : Vd.least m = 0
 ·have HLe := hide hl
  have hv := Vd.vr_of (Vd.good_of HW.out) (Vd.least0 hl).1
  have HWf := hide (Vd.form_wrong HW.out hl)
  have HLf := hide (Vd.form_least HW.out hl)
  have HAg := hide (Vd.form_again hv)
  have HOr := hide (Vd.form_orn hv)
  have FZ1 := hide (fz_all HW.out hl)
  have FZ2 := hide (fz_all HWf.out HLf.out)
  have FA1 := hide (szA_of HWf.out)
  clear hl hv hrow
  have KC1 := hide (canon_r _ m w b _ HS.out HZ.out FZ1.out HLe.out)
  go_enter Tryz.func9, Tryz.ntmps9
  go_wp2_with fail
  refine KC1.out.mono ?_
  rintro e w2 ⟨cb, cao, ccap, rfl, hc, hu⟩
  have HU := hide hu
  have HC : Hid (SetR w2 (.pointer (some ⟨cb, 0, none⟩)) (Vd.form m) cb (.slice cao (Vd.form m).length ccap)) := ⟨rfl, hc.cell, hc.rd⟩
  clear hu hc r0 KC1
  have r0 := HU.out.cell (HR.out.cell (i := 0) rfl)
  have KV := hide (validate_any _ m w2 b _ (HS.out.up HU.out) HZ.out)
  rw [HLe.out] at KV
  go_wp2_with fail
  refine KV.out.mono ?_
  rintro e w3 ⟨rfl, hu⟩
  replace HU := hide (HU.out.trans hu)
  replace HC := hide (HC.out.up hu)
  clear hu r0 KV
  have KC2 := hide (canon_r _ _ w3 cb _ HC.out FA1.out.sz FZ2.out HLf.out)
  rw [HAg.out] at KC2
  go_wp2_with fail
  refine KC2.out.mono ?_
  rintro e w4 ⟨fb, fao, fcap, rfl, hc, hu⟩
  replace HU := hide (HU.out.trans hu)
  replace HC := hide (HC.out.up hu)
  have HD : Hid (SetR w4 (.pointer (some ⟨fb, 0, none⟩)) (Vd.form m) fb (.slice fao (Vd.form m).length fcap)) := ⟨rfl, hc.cell, hc.rd⟩
  clear hu hc KC2
  have KA := hide (alike_c _ _ (Vd.form m) w4 cb fb _ _ HC.out HD.out (bd_sz FA1.out.sz))
  go_wp2_with fail
  refine KA.out.mono ?_
  rintro e w5 ⟨rfl, hu⟩
  replace HU := hide (HU.out.trans hu)
  replace HC := hide (HC.out.up hu)
  clear hu KA HD
  have r0 := HU.out.cell (HR.out.cell (i := 0) rfl)
  have KSep := hide (separate_any _ _ m (Vd.form m) w5 b cb _ _ (HS.out.up HU.out) HC.out HZ.out FZ1.out HLe.out FA1.out.sz FZ2.out HLf.out FA1.out (szA_of (Vd.form_wrong HWf.out HLf.out)) (HTb.out.up HU.out))
  rw [HAg.out, Vd.spot_self HW.out HLe.out] at KSep
  simp only [sepV] at KSep
  go_wp2_with fail
  refine KSep.out.mono ?_
  rintro e w6 ⟨rfl, hu⟩
  replace HU := hide (HU.out.trans hu)
  replace HC := hide (HC.out.up hu)
  clear hu KSep r0
  have KV2 := hide (validate_any _ _ w6 cb _ HC.out FA1.out.sz)
  rw [HLf.out] at KV2
  go_wp2_with fail
  refine KV2.out.mono ?_
  rintro e w7 ⟨rfl, hu⟩
  replace HU := hide (HU.out.trans hu)
  replace HC := hide (HC.out.up hu)
  clear hu KV2
  have KP := hide (points_c _ (Vd.form m) w7 cb _ HC.out (bd_sz FA1.out.sz))
  go_wp2_with fail
  refine KP.out.mono ?_
  rintro e w8 ⟨d', rfl, hok, hm', -, -, -, hu⟩
  replace HU := hide (HU.out.trans hu)
  replace HC := hide (HC.out.up hu)
  have KO := hide (oriented_any d' w8 hok (by rw [hm']; exact bd_sz FA1.out.sz) (by rw [hm']; exact FA1.out.sz.cd) (by rw [hm']; exact HOr.out))
  rw [D3.v] at KO ⊢
  clear hu hok hm' KP
  go_wp2_with fail
  refine KO.out.mono ?_
  rintro e w9 ⟨rfl, hu⟩
  replace HU := hide (HU.out.trans hu)
  replace HC := hide (HC.out.up hu)
  clear hu KO
  have r0 := HU.out.cell (HR.out.cell (i := 0) rfl)
  have K1 := hide (kcorn_any _ _ m (Vd.form m) w9 b cb _ _ (HS.out.up HU.out) HC.out HZ.out HLe.out FA1.out.sz (fun l hl r hr c hc => Vd.form_in HW.out HLe.out hl hr hc))
  go_wp2_with fail
  refine K1.out.mono ?_
  rintro e w10 ⟨rfl, hu⟩
  replace HU := hide (HU.out.trans hu)
  replace HC := hide (HC.out.up hu)
  clear hu K1 r0
  have r0 := HU.out.cell (HR.out.cell (i := 0) rfl)
  have K2 := hide (kcorn_any _ _ (Vd.form m) m w10 cb b _ _ HC.out (HS.out.up HU.out) FA1.out.sz HLf.out HZ.out (fun l hl r hr c hc => Vd.in_form HW.out HLe.out hl hr hc))
  go_wp2_with fail
  refine K2.out.mono ?_
  rintro e w11 ⟨rfl, hu⟩
  replace HU := hide (HU.out.trans hu)
  clear hu K2 r0
  go_wp2
  go_ret
  exact ⟨rfl, HU.out⟩
 ·have HLe := hide hl
  have KC1 := hide (canonical_invalid _ m w b _ HS.out HZ.out hl)
  have hl' := beq_eq_false_iff_ne.2 hl
  have hln := bne_iff_ne.2 hl
  go_enter Tryz.func9, Tryz.ntmps9
  go_wp2_with fail
  refine KC1.out.mono ?_
  rintro e w2 ⟨rfl, hu⟩
  have HU := hide hu
  clear hu r0 KC1
  have r0 := HU.out.cell (HR.out.cell (i := 0) rfl)
  have KV := hide (validate_any _ m w2 b _ (HS.out.up HU.out) HZ.out)
  generalize Vd.least m = L at *
  go_wp2_with fail
  refine KV.out.mono ?_
  rintro e w3 ⟨rfl, hu⟩
  replace HU := hide (HU.out.trans hu)
  clear hu r0 KV
  go_wp2
  go_ret
  exact ⟨rfl, HU.out⟩
end Go.Proofs.YtcclepohmhdpbabGreatDoor
