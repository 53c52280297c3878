import Derived.Test.YtcclepohmhdpbabGreatDoorCnC
import Derived.Test.YtcclepohmhdpbabGreatDoorCnE
import Derived.Test.YtcclepohmhdpbabGreatDoorTxF
namespace Go.Proofs.YtcclepohmhdpbabGreatDoor
set_option linter.all false
open Go.RowKit Go.Deep
structure RG where
 g : Nat
 r : Ring
def RG.v (q : RG) : Value := .slice (some ⟨q.g, 0, none⟩) q.r.length q.r.length
def RG.ok (base : Nat) (w : World) (q : RG) : Prop := base ≤ q.g ∧ PRow w q.g q.r
theorem RG.ok.up {base : Nat} {w w' : World} {q : RG} (h : q.ok base w) (k : Up w w') : q.ok base w' := ⟨h.1, VRow.up h.2 k⟩
theorem RG.ok.grown {base base' n : Nat} {w w' : World} {q : RG} {v : Value} {xs : List Value} {e : TypeId} (h : q.ok base w) (ho : w.ownsRow base' e 1 v n xs) (he : e ≠ 48) (hg : w.grownBy w' v.ownBlock) : q.ok base w' := ⟨h.1, VRow.grown h.2 hg (own_row_ne ho h.2 he)⟩
structure QF (base : Nat) (w : World) (v : Value) (Q : List RG) : Prop where
 own : w.ownsRow base 46 1 v Q.length (Q.map RG.v)
 ok : ∀ q ∈ Q, q.ok base w
theorem QF.up {base : Nat} {w w' : World} {v : Value} {Q : List RG} (h : QF base w v Q) (k : Up w w') : QF base w' v Q := ⟨own_up h.own k, fun q hq => (h.ok q hq).up k⟩
structure HB where
 p : Nat
 q : RG
def HB.v (h : HB) : Value := .slice (some ⟨h.p, 0, none⟩) 1 1
def HB.ok (base : Nat) (w : World) (h : HB) : Prop := base ≤ h.p ∧ VRow w h.p 46 [h.q.v] ∧ h.q.ok base w
theorem HB.ok.up {base : Nat} {w w' : World} {q : HB} (h : q.ok base w) (k : Up w w') : q.ok base w' := ⟨h.1, h.2.1.up k, h.2.2.up k⟩
structure QH (base : Nat) (w : World) (fv v : Value) (H : List HB) : Prop where
 own : w.ownsRow base 45 1 v H.length (H.map HB.v)
 ok : ∀ h ∈ H, h.ok base w
 ne : ∀ h ∈ H, fv.ownBlock ≠ some h.p
theorem QH.up {base : Nat} {w w' : World} {fv v : Value} {H : List HB} (h : QH base w fv v H) (k : Up w w') : QH base w' fv v H := ⟨own_up h.own k, fun q hq => (h.ok q hq).up k, h.ne⟩
theorem own_grown {base base' n n' s s' : Nat} {w w' : World} {v v' : Value} {xs xs' : List Value} {e e' : TypeId} (h : w.ownsRow base e s v n xs) (ho : w.ownsRow base' e' s' v' n' xs') (he : e ≠ e') (hg : w.grownBy w' v'.ownBlock) : w'.ownsRow base e s v n xs :=
 own_of_block h fun g hb => hg.block g (own_lt h hb).2 (fun e2 => own_ne h ho he hb e2.symm)
theorem QF.push {base : Nat} {w w' : World} {v : Value} {Q : List RG} {q : RG} {g cap : Nat} (h : QF base w v Q) (hq : q.ok base w) (hg : w.grownBy w' v.ownBlock) (hown : w'.ownsRow base 46 1 (.slice (some ⟨g, 0, none⟩) (Q.length + 1) cap) (Q.length + 1) (Q.map RG.v ++ [q.v])) : QF base w' (.slice (some ⟨g, 0, none⟩) (Q.length + 1) cap) (Q ++ [q]) := by
 refine ⟨by rw [List.map_append, List.length_append]; exact hown, fun x hx => ?_⟩
 rcases List.mem_append.1 hx with hx | hx
 ·exact (h.ok x hx).grown h.own (by decide) hg
 ·rw [List.mem_singleton.1 hx]; exact hq.grown h.own (by decide) hg
theorem QF.byH {base : Nat} {w w' : World} {fv v : Value} {Q : List RG} {H : List HB} (h : QF base w fv Q) (k : QH base w fv v H) (hg : w.grownBy w' v.ownBlock) : QF base w' fv Q :=
 ⟨own_grown h.own k.own (by decide) hg, fun x hx => (h.ok x hx).grown k.own (by decide) hg⟩
theorem HB.ok.byF {base : Nat} {w w' : World} {fv : Value} {Q : List RG} {h : HB} (k : h.ok base w) (hf : QF base w fv Q) (hne : fv.ownBlock ≠ some h.p) (hg : w.grownBy w' fv.ownBlock) : h.ok base w' := ⟨k.1, k.2.1.grown hg hne, k.2.2.grown hf.own (by decide) hg⟩
theorem QH.byF {base : Nat} {w w' : World} {fv v : Value} {Q : List RG} {H : List HB} {g cap n : Nat} (k : QH base w fv v H) (h : QF base w fv Q) (hg : w.grownBy w' fv.ownBlock) (hat : fv.ownBlock = some g ∨ g = w.heap.size) : QH base w' (.slice (some ⟨g, 0, none⟩) n cap) v H := by
 refine ⟨own_grown k.own h.own (by decide) hg, fun x hx => (k.ok x hx).byF h (k.ne x hx) hg, fun x hx e => ?_⟩
 have hlt : x.p < w.heap.size := VRow.lt (k.ok x hx).2.1
 have e' : g = x.p := Option.some.inj e
 rcases hat with e2 | e2
 ·exact k.ne x hx (e' ▸ e2)
 ·omega
theorem QH.push {base : Nat} {w w' : World} {fv v : Value} {H : List HB} {x : HB} {g cap : Nat} (h : QH base w fv v H) (hx : x.ok base w) (hne : fv.ownBlock ≠ some x.p) (hg : w.grownBy w' v.ownBlock) (hown : w'.ownsRow base 45 1 (.slice (some ⟨g, 0, none⟩) (H.length + 1) cap) (H.length + 1) (H.map HB.v ++ [x.v])) : QH base w' fv (.slice (some ⟨g, 0, none⟩) (H.length + 1) cap) (H ++ [x]) := by
 refine ⟨by rw [List.map_append, List.length_append]; exact hown, fun y hy => ?_, fun y hy => ?_⟩
 ·have one : ∀ y : HB, y.ok base w → y.ok base w' := fun y k => ⟨k.1, k.2.1.grown hg (own_row_ne h.own k.2.1 (by decide)), k.2.2.grown h.own (by decide) hg⟩
  rcases List.mem_append.1 hy with hy | hy
  ·exact one y (h.ok y hy)
  ·rw [List.mem_singleton.1 hy]; exact one x hx
 ·rcases List.mem_append.1 hy with hy | hy
  ·exact h.ne y hy
  ·rw [List.mem_singleton.1 hy]; exact hne
theorem QF.nil (base : Nat) (w : World) : QF base w (.slice none 0 0) [] := ⟨World.ownsRow_nil _ _ _ _, fun q hq => by simp at hq⟩
theorem QH.nil (base : Nat) (w : World) : QH base w (.slice none 0 0) (.slice none 0 0) [] := ⟨World.ownsRow_nil _ _ _ _, fun q hq => by simp at hq, fun q hq => by simp at hq⟩
def HB.m (H : List HB) : Mult := H.map fun h => [h.q.r]
theorem RG.ok.rd {base : Nat} {w : World} {q : RG} (h : q.ok base w) : Rd1 w q.v q.r :=
 ⟨some ⟨q.g, 0, none⟩, _, rfl, fun i p hp => ⟨q.g, rfl, (PRow.cells h.2 hp).1, (PRow.cells h.2 hp).2⟩⟩
theorem QH.rd {base : Nat} {w : World} {fv v : Value} {H : List HB} (h : QH base w fv v H) : Rd3 w v (HB.m H) ∧ Vls w v (H.map HB.v) := by
  obtain ⟨ao, cap, e⟩ := own_len h.own
  have key : ∀ i x, H[i]? = some x → ∃ g, ao = some ⟨g, 0, none⟩ ∧ w.cell? ⟨g, i, none⟩ = some x.v := fun i x hx => by
    obtain ⟨g, cap', e', hc⟩ := own_cell h.own (by have := Pl.lt_of_some hx; omega)
    rw [e] at e'
    cases e'
    exact ⟨g, rfl, hc i _ (by rw [List.getElem?_map, hx]; rfl)⟩
  constructor
  · refine ⟨ao, cap, by rw [e]; simp [HB.m], fun i l hl => ?_⟩
    unfold HB.m at hl
    rw [List.getElem?_map, Option.map_eq_some_iff] at hl
    obtain ⟨x, hx, rfl⟩ := hl
    obtain ⟨g, eg, c⟩ := key i x hx
    refine ⟨g, x.v, eg, c, some ⟨x.p, 0, none⟩, 1, rfl, fun j r hr => ?_⟩
    cases j with
    | zero =>
      simp at hr; subst hr
      exact ⟨x.p, x.q.v, rfl, (h.ok x (Pl.mem_of_some hx)).2.1.cell (i := 0) rfl, (h.ok x (Pl.mem_of_some hx)).2.2.rd⟩
    | succ j => simp at hr
  · refine ⟨ao, cap, by rw [e]; simp, fun i u hu => ?_⟩
    rw [List.getElem?_map, Option.map_eq_some_iff] at hu
    obtain ⟨x, hx, rfl⟩ := hu
    obtain ⟨g, eg, c⟩ := key i x hx
    exact ⟨g, eg, c⟩
def ordH (H : List HB) : List HB := Vd.layN (fun i => Vd.cntA (HB.m H) i H.length) (fun i => H.getD i ⟨0, ⟨0, []⟩⟩) (List.replicate H.length ⟨0, ⟨0, []⟩⟩) H.length
theorem ordH_len (H : List HB) : (ordH H).length = H.length := by unfold ordH; rw [Vd.layN_len]; simp
theorem HB.m_len (H : List HB) : (HB.m H).length = H.length := by simp [HB.m]
theorem ordH_at {H : List HB} {j : Nat} (hj : j < H.length) : ∃ (i : Nat) (x : HB), H[i]? = some x ∧ Vd.cntA (HB.m H) i H.length = j ∧ (ordH H)[j]? = some x := by
 obtain ⟨i, hi, e⟩ := Vd.cnt_surj (m := HB.m H) hj
 obtain ⟨x, hx⟩ := Pl.some_of_lt hi
 refine ⟨i, x, hx, e, ?_⟩
 rw [← e]
 unfold ordH
 rw [Vd.layN_at (f := fun i => Vd.cntA (HB.m H) i H.length) (N := H.length) (fun i h => by simpa using Vd.cnt_small h) (fun i k h1 h2 => Vd.cnt_inj h1 h2) H.length (Nat.le_refl _) i hi, List.getD_eq_getElem?_getD, hx]; rfl
theorem ordH_mem {H : List HB} {x : HB} (h : x ∈ ordH H) : x ∈ H := by
 obtain ⟨j, hj⟩ := List.getElem?_of_mem h
 have := Pl.lt_of_some hj
 rw [ordH_len] at this
 obtain ⟨i, y, hy, -, e⟩ := ordH_at this
 rw [hj] at e
 cases e
 exact Pl.mem_of_some hy
theorem ordH_vals (H : List HB) : layV (HB.m H) (H.map HB.v) (HB.m H).length = (ordH H).map HB.v := by
 refine List.ext_getElem? fun j => ?_
 rcases Nat.lt_or_ge j H.length with hj | hj
 ·obtain ⟨i, x, hx, e, ho⟩ := ordH_at hj
  rw [List.getElem?_map, ho]
  have := layV_at (m := HB.m H) (us := H.map HB.v) (i := i) (by rw [HB.m_len]; exact Pl.lt_of_some hx)
  rw [HB.m_len, e] at this
  rw [HB.m_len, this, usAt_some (u := x.v) (by rw [List.getElem?_map, hx]; rfl)]; rfl
 ·rw [List.getElem?_eq_none (by rw [layV_len, HB.m_len]; exact hj), List.getElem?_eq_none (by rw [List.length_map, ordH_len]; exact hj)]
theorem ordH_rings (H : List HB) : Vd.inOrder (HB.m H) = (ordH H).map fun h => [h.q.r] := by
 refine List.ext_getElem? fun j => ?_
 rcases Nat.lt_or_ge j H.length with hj | hj
 ·obtain ⟨i, x, hx, e, ho⟩ := ordH_at hj
  rw [List.getElem?_map, ho]
  have := Vd.inOrder_at (HB.m H) (i := i) (by rw [HB.m_len]; exact Pl.lt_of_some hx)
  rw [HB.m_len, e] at this
  rw [this]
  have h2 : (HB.m H)[i]? = some [x.q.r] := by unfold HB.m; rw [List.getElem?_map, hx]; rfl
  rw [pAt_some h2]; rfl
 ·rw [List.getElem?_eq_none (by rw [Vd.inOrder_len, HB.m_len]; exact hj), List.getElem?_eq_none (by rw [List.length_map, ordH_len]; exact hj)]
theorem flat_one1 (L : List HB) : (L.map fun h => [h.q.r]).flatten = L.map fun h => h.q.r := by
 induction L with
 | nil => rfl
 | cons a t ih => simp [ih]
structure RZ (r : Ring) : Prop where
 len : r.length ≤ 1048575
 cd : Vd.CdR r
 cn : (Vd.corners r).length ≠ 0
theorem form_len {r : Ring} {l : Bool} (h : RZ r) : (Vd.ringForm r l).length ≤ 1048576 := by
 rw [Vd.rForm_len h.cn]
 have : (Vd.corners r).length ≤ r.length := Vd.cornersI_len r r.length
 have := h.len
 omega
set_option maxRecDepth 8000 in
set_option maxHeartbeats 8000000 in
theorem polygonForm_any (v : Value) (l : Poly) (w : World) (hv : Rd2 w v l) (hl : l.length ≤ 1048576) (hz : ∀ r ∈ l, RZ r) :
    Calls Tryz.prog 44 #[v] w fun e w' => ∃ (fv : Value) (Q : List RG), e = .returned fv ∧ QF w.heap.size w' fv Q ∧ Q.map RG.r = Vd.polyForm l ∧ Up w w' := by
  obtain ⟨ao, cap, rfl, hm⟩ := hv
  have HM := hide hm
  have HZ := hide hz
  clear hm hz
  go_enter Tryz.func44, Tryz.ntmps44
  go_wp2
  go_loopw [3, 4, 11] (fun fv hv i wr => ∃ (k : Nat) (u x : Value) (Q : List RG) (H : List HB), i = .int .i64 k ∧ u = fv ∧ x = hv ∧ k ≤ l.length ∧ Hid (Up w wr) ∧ Hid (QF w.heap.size wr u Q) ∧ Hid (QH w.heap.size wr u x H) ∧ Hid (Q.map RG.r = ((l.take k).take 1).map (Vd.ringForm · true)) ∧ Hid ((H.map fun h => h.q.r) = ((l.take k).drop 1).map (Vd.ringForm · false))) (fun _ _ i _ => l.length - (intOf i).toNat)
  case atStart => exact ⟨0, _, _, [], [], rfl, rfl, rfl, Nat.zero_le _, Up.refl _, QF.nil _ _, QH.nil _ _, rfl, rfl⟩
  case round =>
    obtain ⟨k, u, x, Q, H, rfl, rfl, rfl, hk, HU, HQ, HH, HE1, HE2⟩ := hrel
    by_cases hlt : k < l.length
    · obtain ⟨r, hr⟩ := Pl.some_of_lt hlt
      obtain ⟨b, y, rfl, cy, hy⟩ := HM.out k r hr
      have e0 := HU.out.cell cy
      have Hy := hide (hy.up HU.out)
      have HZr := hide (HZ.out r (Pl.mem_of_some hr))
      have HTk := hide (Pl.take_one hr)
      have i1 : (0 : Int) ≤ (k : Int) := by omega
      have i2 : (k : Int) < (l.length : Int) := by omega
      have hsz : Hid (w.heap.size ≤ wr.heap.size) := HU.out.size
      have hQl : Hid (Q.length ≤ 1073741824) := by
        have := congrArg List.length HE1.out
        simp only [List.length_map, List.length_take] at this
        show _ ≤ _; omega
      have hHl : Hid (H.length ≤ 1073741824) := by
        have := congrArg List.length HE2.out
        simp only [List.length_map, List.length_take, List.length_drop] at this
        show _ ≤ _; omega
      clear hr cy hy
      by_cases hk0 : k = 0
      · subst hk0
        have HE1n : Hid (∀ q : RG, q.r = Vd.ringForm r true → (Q ++ [q]).map RG.r = ((l.take (0 + 1)).take 1).map (Vd.ringForm · true)) := fun q hq => by
          rw [List.map_append, HE1.out, HTk.out]; simp [hq]
        have HE2n : Hid ((H.map fun h => h.q.r) = ((l.take (0 + 1)).drop 1).map (Vd.ringForm · false)) := by
          rw [HE2.out, HTk.out]; simp [Hid]
        go_wp2_with fail
        refine (ringForm_any _ r true _ Hy.out HZr.out.len HZr.out.cd HZr.out.cn).mono ?_
        rintro e w2 ⟨g, rfl, hg, hP, hu2⟩
        have HU2 := hide hu2
        have Hq : Hid (RG.ok w.heap.size w2 ⟨g, Vd.ringForm r true⟩) := ⟨Nat.le_trans hsz.out hg, hP⟩
        generalize hF : Vd.ringForm r true = F at *
        clear hu2 hP e0 hF
        have HUa : Hid (Up wr (w2.alloc (.cells #[.slice (some ⟨g, 0, none⟩) F.length F.length] 46))) := HU2.out.alloc _
        have Hqa : Hid (RG.ok w.heap.size (w2.alloc (.cells #[.slice (some ⟨g, 0, none⟩) F.length F.length] 46)) ⟨g, F⟩) := Hq.out.up ((Up.refl _).alloc _)
        have HQa := hide (HQ.out.up HUa.out)
        have HHa := hide (HH.out.up HUa.out)
        have hsz2 : Hid (w.heap.size ≤ w2.heap.size) := Nat.le_trans hsz.out HU2.out.size
        have hHeap : Hid ((w2.alloc (.cells #[.slice (some ⟨g, 0, none⟩) F.length F.length] 46)).heap[w2.heap.size]? = some (.cells [Value.slice (some ⟨g, 0, none⟩) F.length F.length].toArray 46 (0, 0))) := VRow.new w2 [.slice (some ⟨g, 0, none⟩) F.length F.length] 46
        have hBs : Hid (w.heap.size ≤ (w2.alloc (.cells #[.slice (some ⟨g, 0, none⟩) F.length F.length] 46)).heap.size) := by
          have := hsz2.out; simp [Hid]; omega
        obtain ⟨xa, xc, rfl⟩ := own_len HH.out.own
        obtain ⟨ua, uc, rfl⟩ := own_len HQ.out.own
        go_wp2_with (at_builtin; refine wpList_app el_rings rfl (.tmp 18) (.tmp 21) rfl w.heap.size _ _ _ (by rfl) HQa.out.own w2.heap.size [.slice (some ⟨g, 0, none⟩) F.length F.length] (by rfl) rfl hHeap.out (by intro z hz; simp at hz; subst hz; rfl) hQl.out hBs.out ?_; intro g5 cap5 w5 hown5 hg5 hat5 hlt5; have HQ5 := hide (HQa.out.push Hqa.out hg5 hown5); have HH5 := hide (HHa.out.byF (n := Q.length + 1) (cap := cap5) HQa.out hg5 hat5); have HU5 : Hid (Up w w5) := Fr.up (S := fun _ => False) ((Fr.of_up (HU.out.trans HUa.out)).grown hg5 fun z hz => .inr (own_lt HQ.out.own hz).1) (fun _ _ h => h); clear hown5 hg5 hat5 hlt5)
        go_roundw
        case rel => exact ⟨0 + 1, _, _, _, H, by go_num, rfl, rfl, by omega, HU5, HQ5, HH5, HE1n.out _ rfl, HE2n⟩
        case measure => simp [intOf]; omega
      · have hk0' : ((k : Int) == 0) = false := beq_eq_false_iff_ne.2 (by omega)
        have HE1n : Hid (Q.map RG.r = ((l.take (k + 1)).take 1).map (Vd.ringForm · true)) := by
          rw [HE1.out, HTk.out]; show _ = _; rw [List.take_append_of_le_length (by rw [List.length_take]; omega)]
        have HE2n : Hid (∀ q : HB, q.q.r = Vd.ringForm r false → ((H ++ [q]).map fun h => h.q.r) = ((l.take (k + 1)).drop 1).map (Vd.ringForm · false)) := fun q hq => by
          rw [List.map_append, HE2.out, HTk.out, List.drop_append_of_le_length (by rw [List.length_take]; omega), List.map_append]; simp [hq]
        clear hk0
        go_wp2_with fail
        refine (ringForm_any _ r false _ Hy.out HZr.out.len HZr.out.cd HZr.out.cn).mono ?_
        rintro e w2 ⟨g, rfl, hg, hP, hu2⟩
        have HU2 := hide hu2
        have Hq : Hid (RG.ok w.heap.size w2 ⟨g, Vd.ringForm r false⟩) := ⟨Nat.le_trans hsz.out hg, hP⟩
        have hfl := hide (form_len (l := false) HZr.out)
        generalize hF : Vd.ringForm r false = F at *
        clear hu2 hP e0 hF
        have HUa : Hid (Up wr ((w2.alloc (.cells #[.slice (some ⟨g, 0, none⟩) F.length F.length] 46)).alloc (.cells #[.slice (some ⟨w2.heap.size, 0, none⟩) 1 1] 45))) := (HU2.out.alloc _).alloc _
        have HXo : Hid (HB.ok w.heap.size ((w2.alloc (.cells #[.slice (some ⟨g, 0, none⟩) F.length F.length] 46)).alloc (.cells #[.slice (some ⟨w2.heap.size, 0, none⟩) 1 1] 45)) ⟨w2.heap.size, ⟨g, F⟩⟩) :=
          ⟨Nat.le_trans hsz.out HU2.out.size, (VRow.new w2 _ _).up ((Up.refl _).alloc _), Hq.out.up (((Up.refl _).alloc _).alloc _)⟩
        have HQa := hide (HQ.out.up HUa.out)
        have HHa := hide (HH.out.up HUa.out)
        have hne : Hid (u.ownBlock ≠ some w2.heap.size) := fun e => by have := (own_lt HQ.out.own e).2; have := HU2.out.size; omega
        have hsz2 : Hid (w.heap.size ≤ w2.heap.size) := Nat.le_trans hsz.out HU2.out.size
        have hHeap : Hid (((w2.alloc (.cells #[.slice (some ⟨g, 0, none⟩) F.length F.length] 46)).alloc (.cells #[.slice (some ⟨w2.heap.size, 0, none⟩) 1 1] 45)).heap[w2.heap.size + 1]? = some (.cells [Value.slice (some ⟨w2.heap.size, 0, none⟩) 1 1].toArray 45 (0, 0))) := by
          have := VRow.new (w2.alloc (.cells #[.slice (some ⟨g, 0, none⟩) F.length F.length] 46)) [.slice (some ⟨w2.heap.size, 0, none⟩) 1 1] 45
          unfold VRow at this
          rw [show (w2.alloc (.cells #[.slice (some ⟨g, 0, none⟩) F.length F.length] 46)).heap.size = w2.heap.size + 1 by simp] at this
          exact this
        have hBs : Hid (w.heap.size ≤ ((w2.alloc (.cells #[.slice (some ⟨g, 0, none⟩) F.length F.length] 46)).alloc (.cells #[.slice (some ⟨w2.heap.size, 0, none⟩) 1 1] 45)).heap.size) := by
          have := hsz2.out; simp [Hid]; omega
        obtain ⟨xa, xc, rfl⟩ := own_len HH.out.own
        obtain ⟨ua, uc, rfl⟩ := own_len HQ.out.own
        go_wp2_with (at_builtin; refine wpList_app el_polys rfl (.tmp 23) (.tmp 27) rfl w.heap.size _ _ _ (by rfl) HHa.out.own (w2.heap.size + 1) [.slice (some ⟨w2.heap.size, 0, none⟩) 1 1] (by rfl) rfl hHeap.out (by intro z hz; simp at hz; subst hz; rfl) hHl.out hBs.out ?_; intro g5 cap5 w5 hown5 hg5 hat5 hlt5; have HH5 := hide (HHa.out.push HXo.out hne.out hg5 hown5); have HQ5 := hide (HQa.out.byH HHa.out hg5); have HU5 : Hid (Up w w5) := Fr.up (S := fun _ => False) ((Fr.of_up (HU.out.trans HUa.out)).grown hg5 fun z hz => .inr (own_lt HH.out.own hz).1) (fun _ _ h => h); clear hown5 hg5 hat5 hlt5)
        go_roundw
        case rel => exact ⟨k + 1, _, _, Q, _, by go_num, rfl, rfl, by omega, HU5, HQ5, HH5, HE1n, HE2n.out _ rfl⟩
        case measure => simp [intOf]; omega
    · have i2 : ¬ (k : Int) < (l.length : Int) := by omega
      have hkl : k = l.length := by omega
      have HF1 : Hid (Q.map RG.r = (l.take 1).map (Vd.ringForm · true)) := by have := HE1.out; rw [hkl, List.take_length] at this; exact this
      have HF2 : Hid ((H.map fun h => h.q.r) = (l.drop 1).map (Vd.ringForm · false)) := by have := HE2.out; rw [hkl, List.take_length] at this; exact this
      have hHl : H.length ≤ 1048576 := by
        have := congrArg List.length HF2.out
        simp only [List.length_map, List.length_drop] at this
        omega
      have hQl : Q.length ≤ 1 := by
        have := congrArg List.length HF1.out
        simp only [List.length_map, List.length_take] at this
        omega
      have HRl : Hid (∀ h ∈ H, h.q.r.length ≤ 1048576) := fun h hh => by
        have : h.q.r ∈ (l.drop 1).map (Vd.ringForm · false) := by rw [← HF2.out]; exact List.mem_map.2 ⟨h, hh, rfl⟩
        obtain ⟨r, hr, e⟩ := List.mem_map.1 this
        rw [← e]
        exact form_len (HZ.out r (List.mem_of_mem_drop hr))
      have HPF : Hid (∀ Q' : List RG, Q'.map RG.r = Q.map RG.r ++ ((ordH H).map fun h => h.q.r) → Q'.map RG.r = Vd.polyForm l) := fun Q' hQ' => by
        rw [hQ', HF1.out]
        cases l with
        | nil =>
          have hn : H = [] := by have := congrArg List.length HF2.out; simp at this; exact this
          subst hn
          rfl
        | cons r0 t =>
          have e : Vd.holesF t = HB.m H := by
            unfold Vd.holesF HB.m
            have := HF2.out
            simp only [List.drop_succ_cons, List.drop_zero] at this
            have h2 := congrArg (List.map fun r : Ring => [r]) this
            simp only [List.map_map] at h2
            exact h2.symm
          show [Vd.ringForm r0 true] ++ _ = Vd.ringForm r0 true :: (Vd.inOrder (Vd.holesF t)).flatten
          rw [e, ordH_rings, flat_one1]; rfl
      have HIO := hide (inOrder_any _ (HB.m H) (H.map HB.v) wr HH.out.rd.1 HH.out.rd.2 (by rw [List.length_map, HB.m_len]) (by rw [HB.m_len]; exact hHl) (fun p hp => by unfold HB.m at hp; obtain ⟨h, _, rfl⟩ := List.mem_map.1 hp; simp) (fun p hp r hr => by unfold HB.m at hp; obtain ⟨h, hh, rfl⟩ := List.mem_map.1 hp; rw [List.mem_singleton.1 hr]; exact HRl.out h hh))
      rw [ordH_vals, HB.m_len] at HIO
      clear hkl HE1 HE2
      obtain ⟨xa, xc, rfl⟩ := own_len HH.out.own
      obtain ⟨ua, uc, rfl⟩ := own_len HQ.out.own
      go_wp2_with fail
      refine HIO.out.mono ?_
      rintro e w2 ⟨G, rfl, hG, hRow, hu2⟩
      have HU2 := hide (HU.out.trans hu2)
      have HQ2 := hide (HQ.out.up hu2)
      have HK2 : Hid (∀ h ∈ ordH H, h.ok w.heap.size w2 ∧ (Value.slice ua Q.length uc).ownBlock ≠ some h.p) := fun h hh => ⟨(HH.out.ok h (ordH_mem hh)).up hu2, HH.out.ne h (ordH_mem hh)⟩
      have hOl : (ordH H).length = H.length := ordH_len H
      have HRow := hide hRow
      have HGn : Hid ((Value.slice ua Q.length uc).ownBlock ≠ some G) := fun e => by have := (own_lt HQ.out.own e).2; omega
      generalize ordH H = O at *
      clear hG hRow hu2 HIO HH HF1 HF2 HQ HU HRl
      go_wp2
      go_loopw [3, 33] (fun fv i wq => ∃ (t : Nat) (u : Value) (Q' : List RG), i = .int .i64 t ∧ u = fv ∧ t ≤ H.length ∧ Hid (Up w wq) ∧ Hid (QF w.heap.size wq u Q') ∧ Hid (VRow wq G 45 (O.map HB.v)) ∧ Hid (u.ownBlock ≠ some G) ∧ Hid (∀ h ∈ O, h.ok w.heap.size wq ∧ u.ownBlock ≠ some h.p) ∧ Hid (Q'.map RG.r = Q.map RG.r ++ ((O.take t).map fun h => h.q.r))) (fun _ i _ => H.length - (intOf i).toNat)
      case atStart => exact ⟨0, _, Q, rfl, rfl, Nat.zero_le _, HU2, HQ2, HRow, HGn, HK2, by simp [Hid]⟩
      case round =>
        clear HU2 HQ2 HRow HGn HK2
        obtain ⟨t, u, Q', rfl, rfl, ht, HU, HQ, HRow, HGn, HK, HE⟩ := hrel
        by_cases hlt2 : t < H.length
        · obtain ⟨h, hh⟩ := Pl.some_of_lt (show t < O.length by omega)
          have e0 := HRow.out.cell (i := t) (v := h.v) (by rw [List.getElem?_map, hh]; rfl)
          have Hk := hide (HK.out h (Pl.mem_of_some hh))
          have HEn : Hid ((Q' ++ [h.q]).map RG.r = Q.map RG.r ++ ((O.take (t + 1)).map fun h => h.q.r)) := by rw [Pl.take_one hh, List.map_append, HE.out, List.map_append, List.append_assoc]; exact rfl
          have hQl2 : Hid (Q'.length ≤ 1073741824) := by
            have := congrArg List.length HE.out
            simp only [List.length_map, List.length_append, List.length_take] at this
            show _ ≤ _; omega
          have hBs : Hid (w.heap.size ≤ wr.heap.size) := HU.out.size
          have hHeap : Hid (wr.heap[h.p]? = some (.cells [h.q.v].toArray 46 (0, 0))) := Hk.out.1.2.1
          have j1 : (0 : Int) ≤ (t : Int) := by omega
          have j2 : (t : Int) < (H.length : Int) := by omega
          rw [HB.v] at e0
          obtain ⟨ua', uc', rfl⟩ := own_len HQ.out.own
          clear hh
          go_wp2_with (at_builtin; refine wpList_app el_rings rfl (.tmp 37) (.tmp 38) rfl w.heap.size _ _ _ (by rfl) HQ.out.own h.p [h.q.v] (by rfl) rfl hHeap.out (by intro z hz; simp at hz; subst hz; rfl) hQl2.out hBs.out ?_; intro g5 cap5 w5 hown5 hg5 hat5 hlt5; have HQ5 := hide (HQ.out.push Hk.out.1.2.2 hg5 hown5); have HU5 : Hid (Up w w5) := Fr.up (S := fun _ => False) ((Fr.of_up HU.out).grown hg5 fun z hz => .inr (own_lt HQ.out.own hz).1) (fun _ _ h => h); have HR5 := hide (HRow.out.grown hg5 HGn.out); have HG5 : Hid ((Value.slice (some ⟨g5, 0, none⟩) (Q'.length + 1) cap5).ownBlock ≠ some G) := (fun e => by have hlt := HRow.out.lt; have e' : g5 = G := Option.some.inj e; rcases hat5 with e2 | e2; exact HGn.out (e' ▸ e2); omega); have HK5 : Hid (∀ h ∈ O, h.ok w.heap.size w5 ∧ (Value.slice (some ⟨g5, 0, none⟩) (Q'.length + 1) cap5).ownBlock ≠ some h.p) := (fun x hx => ⟨(HK.out x hx).1.byF HQ.out (HK.out x hx).2 hg5, fun e => by have hlt : x.p < wr.heap.size := (HK.out x hx).1.2.1.lt; have e' : g5 = x.p := Option.some.inj e; rcases hat5 with e2 | e2; exact (HK.out x hx).2 (e' ▸ e2); omega⟩); clear hown5 hg5 hat5 hlt5)
          go_roundw
          case rel => exact ⟨t + 1, _, _, by go_num, rfl, by omega, HU5, HQ5, HR5, HG5, HK5, HEn⟩
          case measure => simp [intOf]; omega
        · have j2 : ¬ (t : Int) < (H.length : Int) := by omega
          have HR := hide (HPF.out Q' (by rw [HE.out, List.take_of_length_le (by omega)]))
          go_wp2
          go_ret
          exact ⟨_, rfl, Q', HQ.out, HR.out, HU.out⟩
end Go.Proofs.YtcclepohmhdpbabGreatDoor
