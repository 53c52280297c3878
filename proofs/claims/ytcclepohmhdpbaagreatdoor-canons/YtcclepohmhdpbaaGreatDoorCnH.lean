import Derived.Test.YtcclepohmhdpbaaGreatDoorCeA
import Derived.Test.YtcclepohmhdpbaaGreatDoorInv
import Derived.Test.YtcclepohmhdpbaaGreatDoorClJ
/- THE WALKS: package canon: Form. -/
namespace Go.Proofs.YtcclepohmhdpbaaGreatDoor
set_option linter.all false
open Go.RowKit Go.Deep

/-- A polygon that was laid: its list, its rings. -/
structure PG where
  v : Value
  q : List RG
def PG.l (x : PG) : Poly := x.q.map RG.r
/-- Polygons that are being laid, in a list. -/
structure QP (base : Nat) (w : World) (v : Value) (X : List PG) : Prop where
  own : w.ownsRow base 33 1 v X.length (X.map PG.v)
  ok : ∀ x ∈ X, QF base w x.v x.q
theorem QF.base {base base' : Nat} {w : World} {v : Value} {Q : List RG} (h : QF base w v Q) (hb : base' ≤ base) : QF base' w v Q := ⟨own_base h.own hb, fun q hq => ⟨Nat.le_trans hb (h.ok q hq).1, (h.ok q hq).2⟩⟩
theorem QF.byP {base base' n : Nat} {w w' : World} {v u : Value} {Q : List RG} {xs : List Value} (h : QF base w v Q) (k : w.ownsRow base' 33 1 u n xs) (hg : w.grownBy w' u.ownBlock) : QF base w' v Q :=
  ⟨own_grown h.own k (by decide) hg, fun x hx => (h.ok x hx).grown k (by decide) hg⟩
theorem QP.nil (base : Nat) (w : World) : QP base w (.slice none 0 0) [] := ⟨World.ownsRow_nil _ _ _ _, fun q hq => by simp at hq⟩
theorem QP.up {base : Nat} {w w' : World} {v : Value} {X : List PG} (h : QP base w v X) (k : Up w w') : QP base w' v X := ⟨own_up h.own k, fun q hq => (h.ok q hq).up k⟩
theorem QP.push {base : Nat} {w w' : World} {v : Value} {X : List PG} {x : PG} {g cap : Nat} (h : QP base w v X) (hx : QF base w x.v x.q) (hg : w.grownBy w' v.ownBlock) (hown : w'.ownsRow base 33 1 (.slice (some ⟨g, 0, none⟩) (X.length + 1) cap) (X.length + 1) (X.map PG.v ++ [x.v])) : QP base w' (.slice (some ⟨g, 0, none⟩) (X.length + 1) cap) (X ++ [x]) := by
  refine ⟨by rw [List.map_append, List.length_append]; exact hown, fun y hy => ?_⟩
  rcases List.mem_append.1 hy with hy | hy
  · exact (h.ok y hy).byP h.own hg
  · rw [List.mem_singleton.1 hy]; exact hx.byP h.own hg
theorem QF.rc {base : Nat} {w : World} {v : Value} {Q : List RG} (h : QF base w v Q) : Rc2 w v (Q.map RG.r) := by
  obtain ⟨ao, cap, e⟩ := own_len h.own
  refine ⟨ao, cap, by rw [e, List.length_map], ?_, fun i r hr => ?_⟩
  · rw [List.length_map]
    rcases h.own.2 with ⟨e2, h0⟩ | ⟨g, cap', cur, e2, hb, hh, hc⟩
    · rw [h0]; exact Nat.zero_le _
    · rw [e] at e2; cases e2; exact hc.1
  · rw [List.getElem?_map, Option.map_eq_some_iff] at hr
    obtain ⟨q, hq, rfl⟩ := hr
    obtain ⟨g, cap', e', hc⟩ := own_cell h.own (by have := Pl.lt_of_some hq; omega)
    rw [e] at e'
    cases e'
    exact ⟨g, q.v, rfl, hc i _ (by rw [List.getElem?_map, hq]; rfl), (h.ok q (Pl.mem_of_some hq)).rd⟩

namespace Vd
theorem ord_mem {m : Mult} {x : Poly} (h : x ∈ inOrder m) : x ∈ m := by
  obtain ⟨j, hj⟩ := List.getElem?_of_mem h
  have hl := Pl.lt_of_some hj
  rw [inOrder_len] at hl
  obtain ⟨i, hi, e⟩ := cnt_surj (m := m) hl
  have := inOrder_at m hi
  rw [e, hj] at this
  cases this
  obtain ⟨l, hl⟩ := Pl.some_of_lt hi
  unfold pAt; rw [List.getD_eq_getElem?_getD, hl]; exact Pl.mem_of_some hl
theorem polyForm_mem {l : Poly} {x : Ring} (h : x ∈ polyForm l) : ∃ r ∈ l, ∃ b, x = ringForm r b := by
  cases l with
  | nil => simp [polyForm] at h
  | cons r0 t =>
    rw [polyForm] at h
    rcases List.mem_cons.1 h with rfl | h
    · exact ⟨r0, by simp, true, rfl⟩
    · obtain ⟨p, hp, hx⟩ := List.mem_flatten.1 h
      obtain ⟨r, hr, rfl⟩ := List.mem_map.1 (ord_mem hp)
      exact ⟨r, by simp [hr], false, List.mem_singleton.1 hx⟩
theorem flatten_ones {m : Mult} (h : ∀ x ∈ m, x.length = 1) : m.flatten.length = m.length := by
  induction m with
  | nil => rfl
  | cons a t ih => rw [List.flatten_cons, List.length_append, h a (by simp), ih fun x hx => h x (by simp [hx]), List.length_cons]; omega
theorem polyForm_len (l : Poly) : (polyForm l).length = l.length := by
  cases l with
  | nil => rfl
  | cons r0 t =>
    rw [polyForm, List.length_cons, List.length_cons, flatten_ones, inOrder_len]
    · unfold holesF; rw [List.length_map]
    · intro x hx
      obtain ⟨r, _, rfl⟩ := List.mem_map.1 (ord_mem hx)
      rfl
end Vd
def PG.m (X : List PG) : Mult := X.map PG.l
theorem PG.m_len (X : List PG) : (PG.m X).length = X.length := by simp [PG.m]
theorem QP.rd {base : Nat} {w : World} {v : Value} {X : List PG} (h : QP base w v X) : Rd3 w v (PG.m X) ∧ Vls w v (X.map PG.v) := by
  obtain ⟨ao, cap, e⟩ := own_len h.own
  have key : ∀ i x, X[i]? = some x → ∃ g, ao = some ⟨g, 0, none⟩ ∧ w.cell? ⟨g, i, none⟩ = some x.v := fun i x hx => by
    obtain ⟨g, cap', e', hc⟩ := own_cell h.own (by have := Pl.lt_of_some hx; omega)
    rw [e] at e'
    cases e'
    exact ⟨g, rfl, hc i _ (by rw [List.getElem?_map, hx]; rfl)⟩
  constructor
  · refine ⟨ao, cap, by rw [e, PG.m_len], fun i l hl => ?_⟩
    unfold PG.m at hl
    rw [List.getElem?_map, Option.map_eq_some_iff] at hl
    obtain ⟨x, hx, rfl⟩ := hl
    obtain ⟨g, eg, c⟩ := key i x hx
    exact ⟨g, x.v, eg, c, (h.ok x (Pl.mem_of_some hx)).rc.rd⟩
  · refine ⟨ao, cap, by rw [e, List.length_map], fun i u hu => ?_⟩
    rw [List.getElem?_map, Option.map_eq_some_iff] at hu
    obtain ⟨x, hx, rfl⟩ := hu
    obtain ⟨g, eg, c⟩ := key i x hx
    exact ⟨g, eg, c⟩
/-- The polygons in their order. -/
def ordP (X : List PG) : List PG := Vd.layN (fun i => Vd.cntA (PG.m X) i X.length) (fun i => X.getD i ⟨.slice none 0 0, []⟩) (List.replicate X.length ⟨.slice none 0 0, []⟩) X.length
theorem ordP_len (X : List PG) : (ordP X).length = X.length := by unfold ordP; rw [Vd.layN_len]; simp
theorem ordP_at {X : List PG} {j : Nat} (hj : j < X.length) : ∃ (i : Nat) (x : PG), X[i]? = some x ∧ Vd.cntA (PG.m X) i X.length = j ∧ (ordP X)[j]? = some x := by
  obtain ⟨i, hi, e⟩ := Vd.cnt_surj (m := PG.m X) hj
  obtain ⟨x, hx⟩ := Pl.some_of_lt hi
  refine ⟨i, x, hx, e, ?_⟩
  rw [← e]
  unfold ordP
  rw [Vd.layN_at (f := fun i => Vd.cntA (PG.m X) i X.length) (N := X.length) (fun i h => by simpa using Vd.cnt_small h) (fun i k h1 h2 => Vd.cnt_inj h1 h2) X.length (Nat.le_refl _) i hi, List.getD_eq_getElem?_getD, hx]; rfl
theorem ordP_mem {X : List PG} {x : PG} (h : x ∈ ordP X) : x ∈ X := by
  obtain ⟨j, hj⟩ := List.getElem?_of_mem h
  have := Pl.lt_of_some hj
  rw [ordP_len] at this
  obtain ⟨i, y, hy, -, e⟩ := ordP_at this
  rw [hj] at e
  cases e
  exact Pl.mem_of_some hy
theorem ordP_vals (X : List PG) : layV (PG.m X) (X.map PG.v) (PG.m X).length = (ordP X).map PG.v := by
  refine List.ext_getElem? fun j => ?_
  rcases Nat.lt_or_ge j X.length with hj | hj
  · obtain ⟨i, x, hx, e, ho⟩ := ordP_at hj
    rw [List.getElem?_map, ho]
    have := layV_at (m := PG.m X) (us := X.map PG.v) (i := i) (by rw [PG.m_len]; exact Pl.lt_of_some hx)
    rw [PG.m_len, e] at this
    rw [PG.m_len, this, usAt_some (u := x.v) (by rw [List.getElem?_map, hx]; rfl)]; rfl
  · rw [List.getElem?_eq_none (by rw [layV_len, PG.m_len]; exact hj), List.getElem?_eq_none (by rw [List.length_map, ordP_len]; exact hj)]
theorem ordP_polys (X : List PG) : Vd.inOrder (PG.m X) = (ordP X).map PG.l := by
  refine List.ext_getElem? fun j => ?_
  rcases Nat.lt_or_ge j X.length with hj | hj
  · obtain ⟨i, x, hx, e, ho⟩ := ordP_at hj
    rw [List.getElem?_map, ho]
    have := Vd.inOrder_at (PG.m X) (i := i) (by rw [PG.m_len]; exact Pl.lt_of_some hx)
    rw [PG.m_len, e] at this
    rw [this]
    have h2 : (PG.m X)[i]? = some x.l := by unfold PG.m; rw [List.getElem?_map, hx]; rfl
    rw [pAt_some h2]; rfl
  · rw [List.getElem?_eq_none (by rw [Vd.inOrder_len, PG.m_len]; exact hj), List.getElem?_eq_none (by rw [List.length_map, ordP_len]; exact hj)]

/-- What is asked of a set that has a form. -/
structure FZ (m : Mult) : Prop where
  len : m.length ≤ 1048576
  poly : ∀ l ∈ m, l.length ≤ 1048576
  ring : ∀ l ∈ m, ∀ r ∈ l, RZ r
/-- A set that was laid. -/
structure NS (base : Nat) (w : World) (G : Nat) (X : List PG) : Prop where
  low : base ≤ G
  row : VRow w G 33 (X.map PG.v)
  ok : ∀ x ∈ X, QF base w x.v x.q
set_option maxRecDepth 8000 in
set_option maxHeartbeats 8000000 in
theorem form_any (v : Value) (m : Mult) (w : World) (hv : Rd3 w v m) (hz : FZ m) :
    Calls Tryz.prog 93 #[v] w fun e w' => ∃ (G : Nat) (X : List PG), e = .returned (.slice (some ⟨G, 0, none⟩) X.length X.length) ∧ NS w.heap.size w' G X ∧ PG.m X = Vd.form m ∧ Up w w' := by
  obtain ⟨ao, cap, rfl, hm⟩ := hv
  have HM := hide hm
  have HZ := hide hz
  have hl := hz.len
  have HDf : Hid (Vd.form m = Vd.inOrder (m.map Vd.polyForm)) := rfl
  clear hm hz
  go_enter Tryz.func93, Tryz.ntmps93
  go_wp2
  go_loopw [3, 8] (fun fv i wr => ∃ (k : Nat) (u : Value) (X : List PG), i = .int .i64 k ∧ u = fv ∧ k ≤ m.length ∧ Hid (Up w wr) ∧ Hid (QP w.heap.size wr u X) ∧ Hid (PG.m X = (m.take k).map Vd.polyForm)) (fun _ i _ => m.length - (intOf i).toNat)
  case atStart => exact ⟨0, _, [], rfl, rfl, Nat.zero_le _, Up.refl _, QP.nil _ _, rfl⟩
  case round =>
    obtain ⟨k, u, X, rfl, rfl, hk, HU, HQ, HE⟩ := hrel
    have hXl : X.length = k := by
      have := congrArg List.length HE.out
      rw [PG.m_len, List.length_map, List.length_take] at this
      omega
    by_cases hlt : k < m.length
    · obtain ⟨l, hr⟩ := Pl.some_of_lt hlt
      obtain ⟨b, y, rfl, cy, hy⟩ := HM.out k l hr
      have e0 := HU.out.cell cy
      have HKp := hide (polygonForm_any y l wr (hy.up HU.out) (HZ.out.poly l (Pl.mem_of_some hr)) (HZ.out.ring l (Pl.mem_of_some hr)))
      have HEn : Hid (∀ x : PG, x.l = Vd.polyForm l → PG.m (X ++ [x]) = (m.take (k + 1)).map Vd.polyForm) := fun x hx => by
        unfold PG.m at *
        rw [List.map_append, HE.out, Pl.take_one hr, List.map_append]; simp [hx]
      have i1 : (0 : Int) ≤ (k : Int) := by omega
      have i2 : (k : Int) < (m.length : Int) := by omega
      have hsz : Hid (w.heap.size ≤ wr.heap.size) := HU.out.size
      have hXb : Hid (X.length ≤ 1073741824) := by show _ ≤ _; omega
      clear hr cy hy hXl
      go_wp2_with fail
      refine HKp.out.mono ?_
      rintro e w2 ⟨fv, Q, rfl, hQF, hQe, hu2⟩
      have HU2 := hide hu2
      have HQF := hide (hQF.base hsz.out)
      have HQe := hide hQe
      obtain ⟨fa, fc, rfl⟩ := own_len hQF.own
      clear hu2 hQF hQe e0 HKp
      have HUa : Hid (Up wr (w2.alloc (.cells #[.slice fa Q.length fc] 33))) := HU2.out.alloc _
      have HFa : Hid (QF w.heap.size (w2.alloc (.cells #[.slice fa Q.length fc] 33)) (.slice fa Q.length fc) Q) := HQF.out.up ((Up.refl _).alloc _)
      have HQa := hide (HQ.out.up HUa.out)
      have hHeap : Hid ((w2.alloc (.cells #[.slice fa Q.length fc] 33)).heap[w2.heap.size]? = some (.cells [Value.slice fa Q.length fc].toArray 33 (0, 0))) := VRow.new w2 [.slice fa Q.length fc] 33
      have hBs : Hid (w.heap.size ≤ (w2.alloc (.cells #[.slice fa Q.length fc] 33)).heap.size) := by
        have := Nat.le_trans hsz.out HU2.out.size; simp [Hid]; omega
      obtain ⟨ua, uc, rfl⟩ := own_len HQ.out.own
      go_wp2_with (at_builtin; refine wpList_app el_polys rfl (.tmp 12) (.tmp 15) rfl w.heap.size _ _ _ (by rfl) HQa.out.own w2.heap.size [.slice fa Q.length fc] (by rfl) rfl hHeap.out (by intro z hz; simp at hz; subst hz; rfl) hXb.out hBs.out ?_; intro g5 cap5 w5 hown5 hg5 hat5 hlt5; have HQ5 := hide (HQa.out.push (x := ⟨.slice fa Q.length fc, Q⟩) HFa.out hg5 hown5); have HU5 : Hid (Up w w5) := Fr.up (S := fun _ => False) ((Fr.of_up (HU.out.trans HUa.out)).grown hg5 fun z hz => .inr (own_lt HQ.out.own hz).1) (fun _ _ h => h); clear hown5 hg5 hat5 hlt5)
      go_roundw
      case rel => exact ⟨k + 1, _, _, by go_num, rfl, by omega, HU5, HQ5, HEn.out _ HQe.out⟩
      case measure => simp [intOf]; omega
    · have i2 : ¬ (k : Int) < (m.length : Int) := by omega
      have HEf : Hid (PG.m X = m.map Vd.polyForm) := by have := HE.out; rw [show k = m.length by omega, List.take_length] at this; exact this
      have HIO := hide (inOrder_any _ (PG.m X) (X.map PG.v) wr HQ.out.rd.1 HQ.out.rd.2 (by rw [List.length_map, PG.m_len]) (by rw [PG.m_len]; omega) (fun p hp => by
        rw [HEf.out] at hp
        obtain ⟨l, hl, rfl⟩ := List.mem_map.1 hp
        rw [Vd.polyForm_len]; exact HZ.out.poly l hl) (fun p hp r hr => by
        rw [HEf.out] at hp
        obtain ⟨l, hl, rfl⟩ := List.mem_map.1 hp
        obtain ⟨r0, hr0, b, rfl⟩ := Vd.polyForm_mem hr
        exact form_len (HZ.out.ring l hl r0 hr0)))
      rw [ordP_vals, PG.m_len] at HIO
      have HRf : Hid (PG.m (ordP X) = Vd.form m) := by rw [HDf.out, ← HEf.out, ordP_polys]; exact rfl
      have hOl : (ordP X).length = X.length := ordP_len X
      have HOk : Hid (∀ x ∈ ordP X, QF w.heap.size wr x.v x.q) := fun x hx => HQ.out.ok x (ordP_mem hx)
      have hsz : Hid (w.heap.size ≤ wr.heap.size) := HU.out.size
      obtain ⟨ua, uc, rfl⟩ := own_len HQ.out.own
      generalize ordP X = O at *
      clear hXl
      go_wp2_with fail
      refine HIO.out.mono ?_
      rintro e w2 ⟨G, rfl, hG, hRow, hu2⟩
      have HN : Hid (NS w.heap.size w2 G O) := ⟨Nat.le_trans hsz.out hG, hRow, fun x hx => (HOk.out x hx).up hu2⟩
      have HU2 := hide (HU.out.trans hu2)
      rw [← hOl]
      clear hG hRow hu2 HIO
      go_wp2
      go_ret
      exact ⟨G, O, by rw [hOl]; rfl, HN.out, HRf.out, HU2.out⟩
end Go.Proofs.YtcclepohmhdpbaaGreatDoor

/- THE WALKS: package clauses: Least; Validate. -/
namespace Go.Proofs.YtcclepohmhdpbaaGreatDoor
set_option linter.all false
open Go.RowKit Go.Deep

/-- The sizes of a polygon that can be asked. -/
structure SzL (l : Poly) : Prop where
  len : l.length ≤ 1048576
  ring : ∀ r ∈ l, r.length ≤ 1048575
  flat : l.flatten.length ≤ 1048575
  cd : Vd.CdL l
theorem Sz.at {m : Mult} (h : Sz m) {l : Poly} (hl : l ∈ m) : SzL l := ⟨h.poly l hl, h.ring l hl, h.flat l hl, h.cd l hl⟩
theorem SzL.ring' {l : Poly} (h : SzL l) : ∀ r ∈ l, r.length ≤ 1048576 := fun r hr => by have := h.ring r hr; omega
theorem holdsC1 (l : Poly) : Vd.holdsC 1 l = Vd.simple l := rfl
theorem holdsC2 (l : Poly) : Vd.holdsC 2 l = Vd.touch l := rfl
theorem holdsC3 (l : Poly) : Vd.holdsC 3 l = Vd.nested l := rfl
theorem holdsC4 (l : Poly) : Vd.holdsC 4 l = !(Vd.way l) := rfl
set_option maxHeartbeats 2000000 in
theorem holds_any (c : Nat) (hc : 1 ≤ c) (hc4 : c ≤ 4) (v : Value) (l : Poly) (w : World) (hv : Rd2 w v l) (hz : SzL l) :
    Calls Tryz.prog 89 #[.int .i64 c, v] w fun e w' => e = .returned (.bool (Vd.holdsC c l)) ∧ Up w w' := by
  have HV := hide hv
  have HZ := hide hz
  clear hv hz
  rcases (show c = 1 ∨ c = 2 ∨ c = 3 ∨ c = 4 from by omega) with rfl | rfl | rfl | rfl
  · rw [holdsC1]
    go_enter Tryz.func89, Tryz.ntmps89
    go_wp2_with (go_at_call 121; refine (areSimple_any _ l _ HV.out HZ.out.len HZ.out.ring' HZ.out.cd).mono ?_; rintro e w2 ⟨rfl, hz2⟩; replace hz2 := hide hz2)
    go_ret
    exact ⟨rfl, hz2.out⟩
  · rw [holdsC2]
    go_enter Tryz.func89, Tryz.ntmps89
    go_wp2_with (go_at_call 122; refine (touch_any _ l _ HV.out HZ.out.len HZ.out.ring' HZ.out.cd).mono ?_; rintro e w2 ⟨rfl, hz2⟩; replace hz2 := hide hz2)
    go_ret
    exact ⟨rfl, hz2.out⟩
  · rw [holdsC3]
    go_enter Tryz.func89, Tryz.ntmps89
    go_wp2_with (go_at_call 123; refine (nested_any _ l _ HV.out HZ.out.len HZ.out.ring HZ.out.cd).mono ?_; rintro e w2 ⟨rfl, hz2⟩; replace hz2 := hide hz2)
    go_ret
    exact ⟨rfl, hz2.out⟩
  · rw [holdsC4]
    go_enter Tryz.func89, Tryz.ntmps89
    go_wp2_with (go_at_call 124; refine (way_any _ l _ HV.out HZ.out.len HZ.out.ring' (by have := HZ.out.flat; omega) HZ.out.cd).mono ?_; rintro e w2 ⟨rfl, hz2⟩; replace hz2 := hide hz2)
    go_ret
    exact ⟨rfl, hz2.out⟩

theorem least_at {m : Mult} {k : Nat} (hk : k < 4) (h : ∀ j, 1 ≤ j → j ≤ k → Vd.badC j m = false) (hb : Vd.badC (k + 1) m = true) : Vd.least m = (k : Int) + 1 := by
  unfold Vd.least
  rcases (show k = 0 ∨ k = 1 ∨ k = 2 ∨ k = 3 from by omega) with rfl | rfl | rfl | rfl
  · simp [hb]
  · simp [h 1 (by omega) (by omega), hb]
  · simp [h 1 (by omega) (by omega), h 2 (by omega) (by omega), hb]
  · simp [h 1 (by omega) (by omega), h 2 (by omega) (by omega), h 3 (by omega) (by omega), hb]
theorem least_last {m : Mult} (h : ∀ j, 1 ≤ j → j ≤ 4 → Vd.badC j m = false) : Vd.least m = if Vd.overlap m = true then 5 else 0 := by
  unfold Vd.least
  simp [h 1 (by omega) (by omega), h 2 (by omega) (by omega), h 3 (by omega) (by omega), h 4 (by omega) (by omega)]

set_option maxHeartbeats 4000000 in
theorem least_any (v : Value) (m : Mult) (w : World) (hv : Rd3 w v m) (hz : Sz m) :
    Calls Tryz.prog 55 #[v] w fun e w' => e = .returned (.int .i64 (Vd.least m)) ∧ Up w w' := by
  have HV := hide hv
  obtain ⟨ao, cap, rfl, hM⟩ := hv
  have HM := hide hM
  have HZ := hide hz
  have hl := hz.len
  have HLa := hide (fun k => least_at (m := m) (k := k))
  have HLl := hide (least_last (m := m))
  clear hM hz
  go_enter Tryz.func55, Tryz.ntmps55
  go_wp2
  go_loopw [3] (fun i wr => ∃ k : Nat, i = .int .i64 ((k : Int) + 1) ∧ k ≤ 4 ∧ Hid (Up w wr) ∧ Hid (∀ j, 1 ≤ j → j ≤ k → Vd.badC j m = false)) (fun i _ => 5 - (intOf i).toNat)
  case atStart => exact ⟨0, rfl, Nat.zero_le _, Up.refl _, fun j h1 h2 => by omega⟩
  case round =>
    obtain ⟨k, rfl, hk, HU, HA⟩ := hrel
    by_cases hlt : k < 4
    · have i1 : (k : Int) + 1 ≤ 4 := by omega
      have HBd : Hid (Vd.badC (k + 1) m = m.any fun l => !(Vd.holdsC (k + 1) l)) := rfl
      go_wp2
      go_loopw [12] (fun i wr => ∃ q : Nat, i = .int .i64 q ∧ q ≤ m.length ∧ Hid (Up w wr) ∧ Hid ((m.take q).any (fun l => !(Vd.holdsC (k + 1) l)) = false)) (fun i _ => m.length - (intOf i).toNat)
      case atStart => exact ⟨0, rfl, Nat.zero_le _, HU, rfl⟩
      case round =>
        clear HU
        obtain ⟨q, rfl, hq, HU, HB⟩ := hrel
        by_cases hlq : q < m.length
        · obtain ⟨l, hl2⟩ := Pl.some_of_lt hlq
          obtain ⟨b, z, rfl, cu, hzo⟩ := HM.out q l hl2
          have Hz2 := hide (hzo.up HU.out)
          have cu2 := HU.out.cell cu
          have Hlz := hide (HZ.out.at (Pl.mem_of_some hl2))
          have HY := hide (Pl.any_take_succ (fun l => !(Vd.holdsC (k + 1) l)) hl2)
          have Hl := hide hl2
          clear hl2 cu hzo
          cases hx : Vd.holdsC (k + 1) l
          · have Hx := hide hx
            have HR := hide (HLa.out k hlt HA.out (by rw [HBd.out]; exact Pl.any_true_of _ Hl.out (by rw [hx]; rfl)))
            clear hx
            go_wp2_with (go_at_call 89; refine (holds_any (k + 1) (by omega) (by omega) _ l _ Hz2.out Hlz.out).mono ?_; rintro e w2 ⟨rfl, hz2⟩; rw [Hx.out]; replace hz2 := hide hz2)
            go_ret
            exact ⟨ret_i HR.out.symm, HU.out.trans hz2.out⟩
          · have Hx := hide hx
            clear hx
            go_wp2_with (go_at_call 89; refine (holds_any (k + 1) (by omega) (by omega) _ l _ Hz2.out Hlz.out).mono ?_; rintro e w2 ⟨rfl, hz2⟩; rw [Hx.out]; replace hz2 := hide hz2)
            go_roundw
            case rel => exact ⟨q + 1, by go_num, by omega, HU.out.trans hz2.out, by rw [HY.out, HB.out, Hx.out]; exact rfl⟩
            case measure => simp [intOf]; omega
        · have hq2 : q = m.length := by omega
          subst hq2
          rw [List.take_length] at HB
          have HA2 : Hid (∀ j, 1 ≤ j → j ≤ k + 1 → Vd.badC j m = false) := by
            intro j h1 h2
            by_cases e : j = k + 1
            · rw [e, HBd.out]; exact HB.out
            · exact HA.out j h1 (by omega)
          go_wp2
          go_roundw
          case rel => exact ⟨k + 1, by go_num, by omega, HU, HA2⟩
          case measure => simp [intOf]; omega
    · have hk2 : k = 4 := by omega
      have HR := hide (HLl.out (by rw [← hk2]; exact HA.out))
      have i1 : ¬ ((k : Int) + 1 ≤ 4) := by omega
      clear hk2
      go_wp2_with fail
      refine (overlap_any _ m _ (HV.out.up HU.out) HZ.out).mono ?_
      rintro e w2 ⟨rfl, hz2⟩
      replace hz2 := hide hz2
      cases hx : Vd.overlap m
      all_goals
        rw [hx] at HR
        go_wp2
        go_ret
        exact ⟨ret_i HR.out.symm, HU.out.trans hz2.out⟩

/-! ### the calls -/
theorem le_sum {x : Nat} : ∀ {l : List Nat}, x ∈ l → x ≤ l.sum := by
  intro l
  induction l with
  | nil => intro h; cases h
  | cons a t ih =>
    intro h
    rw [List.sum_cons]
    rcases List.mem_cons.1 h with rfl | h
    · omega
    · have := ih h; omega
theorem sz_of {m : Mult} (h : Pl.wrong m = 0) : Sz m := by
  have hmany : Pl.many m = false := by
    unfold Pl.wrong at h
    split at h
    · omega
    · rename_i k; simpa using k
  unfold Pl.many at hmany
  simp only [Bool.or_eq_false_iff, decide_eq_false_iff_not] at hmany
  obtain ⟨⟨h1, h2⟩, h3⟩ := hmany
  have nr : ∀ l ∈ m, l.length ≤ Pl.nR m := fun l hl => by
    unfold Pl.nR
    exact le_sum (List.mem_map_of_mem hl)
  have np : ∀ l ∈ m, Pl.nPl l ≤ Pl.nP m := fun l hl => by
    unfold Pl.nP
    exact le_sum (List.mem_map_of_mem hl)
  have nl : ∀ l : Poly, ∀ r ∈ l, r.length ≤ Pl.nPl l := fun l r hr => by
    unfold Pl.nPl
    exact le_sum (List.mem_map_of_mem hr)
  have nf : ∀ l : Poly, l.flatten.length = Pl.nPl l := fun l => by
    unfold Pl.nPl; rw [List.length_flatten]
  refine ⟨by omega, fun l hl => by have := nr l hl; omega, fun l hl r hr => ?_, fun l hl => ?_, Vd.cd_of h⟩
  · have := nl l r hr; have := np l hl; omega
  · rw [nf]; have := np l hl; omega
end Go.Proofs.YtcclepohmhdpbaaGreatDoor

/- THE WALKS: Validate, isValid. -/
namespace Go.Proofs.YtcclepohmhdpbaaGreatDoor
set_option linter.all false
open Go.RowKit Go.Deep

/-- A set in memory, as it is read. -/
structure SetR (w : World) (v : Value) (m : Mult) (b : Nat) (u : Value) : Prop where
  ptr : v = .pointer (some ⟨b, 0, none⟩)
  cell : VRow w b 78 [u]
  rd : Rd3 w u m
theorem SetR.up {w w' : World} {v : Value} {m : Mult} {b : Nat} {u : Value} (h : SetR w v m b u) (k : Up w w') : SetR w' v m b u := ⟨h.ptr, h.cell.up k, h.rd.up k⟩
theorem Set3.r {w : World} {v : Value} {m : Mult} {b : Nat} {d : D3} (h : Set3 w v m b d) : SetR w v m b d.v := ⟨h.ptr, h.cell, by have := h.ok.rd; rw [h.pts] at this; exact this⟩
set_option maxHeartbeats 1000000 in
theorem validate_any (v : Value) (m : Mult) (w : World) (b : Nat) (u : Value) (hs : SetR w v m b u) (hz : Sz m) :
    Calls Tryz.prog 33 #[v] w fun e w' => e = .returned (.int .i64 (Vd.least m)) ∧ Up w w' := by
  have HZ := hide hz
  have HR := hide hs.rd
  obtain ⟨rfl, hc, hr⟩ := hs
  obtain ⟨ao, cap, rfl, -⟩ := hr
  have c0 := hc.cell (i := 0) rfl
  clear hc hz
  go_enter Tryz.func33, Tryz.ntmps33
  go_wp2_with (go_at_call 55; refine (least_any _ m _ HR.out HZ.out).mono ?_; rintro e w2 ⟨rfl, hz2⟩; replace hz2 := hide hz2)
  go_ret
  exact ⟨rfl, hz2.out⟩
set_option maxHeartbeats 1000000 in
theorem isValid_any (v : Value) (m : Mult) (w : World) (b : Nat) (u : Value) (hs : SetR w v m b u) (hz : Sz m) :
    Calls Tryz.prog 92 #[v] w fun e w' => e = .returned (.bool (decide (Vd.least m = 0))) ∧ Up w w' := by
  have HZ := hide hz
  have HR := hide hs.rd
  obtain ⟨rfl, hc, hr⟩ := hs
  obtain ⟨ao, cap, rfl, -⟩ := hr
  have c0 := hc.cell (i := 0) rfl
  clear hc hz
  by_cases h : Vd.least m = 0
  · have H := hide h
    clear h
    go_enter Tryz.func92, Tryz.ntmps92
    go_wp2_with (go_at_call 55; refine (least_any _ m _ HR.out HZ.out).mono ?_; rintro e w2 ⟨rfl, hz2⟩; rw [H.out]; replace hz2 := hide hz2)
    go_ret
    exact ⟨ret_b (by rw [H.out]; rfl), hz2.out⟩
  · have H := hide h
    have h' := beq_eq_false_iff_ne.2 h
    go_enter Tryz.func92, Tryz.ntmps92
    go_wp2_with (go_at_call 55; refine (least_any _ m _ HR.out HZ.out).mono ?_; rintro e w2 ⟨rfl, hz2⟩; replace hz2 := hide hz2)
    go_ret
    exact ⟨ret_b (decide_eq_false H.out).symm, hz2.out⟩
theorem isValid_is {v : Value} {m : Mult} {w : World} {b : Nat} {u : Value} {B : Bool} (h : decide (Vd.least m = 0) = B) (hs : SetR w v m b u) (hz : Sz m) :
    Calls Tryz.prog 92 #[v] w fun e w' => e = .returned (.bool B) ∧ Up w w' := by
  have := isValid_any v m w b u hs hz; rwa [h] at this
end Go.Proofs.YtcclepohmhdpbaaGreatDoor

/- THE WALKS: Canonical. -/
namespace Go.Proofs.YtcclepohmhdpbaaGreatDoor
set_option linter.all false
open Go.RowKit Go.Deep

set_option maxRecDepth 8000 in
set_option maxHeartbeats 4000000 in
theorem canonical_invalid (v : Value) (m : Mult) (w : World) (g : Nat) (u : Value) (hs : SetR w v m g u) (hz : Sz m) (hv : Vd.least m ≠ 0) :
    Calls Tryz.prog 57 #[v] w fun e w' => e = .returned (.tuple #[.pointer none, .int .i64 7]) ∧ Up w w' := by
  have HK := hide (isValid_is (decide_eq_false hv) hs hz)
  obtain ⟨rfl, -, -⟩ := hs
  clear hz hv
  go_enter Tryz.func57, Tryz.ntmps57
  go_wp2_with fail
  refine HK.out.mono ?_
  rintro e w2 ⟨rfl, hu⟩
  replace hu := hide hu
  go_wp2
  go_ret2
  exact ⟨rfl, hu.out⟩
set_option maxRecDepth 8000 in
set_option maxHeartbeats 4000000 in
theorem canonical_ok (v : Value) (m : Mult) (w : World) (g : Nat) (u : Value) (hs : SetR w v m g u) (hz : Sz m) (hf : FZ m) (hv : Vd.least m = 0) :
    Calls Tryz.prog 57 #[v] w fun e w' => ∃ (b G : Nat) (X : List PG), e = .returned (.tuple #[.pointer (some ⟨b, 0, none⟩), .int .i64 0]) ∧ w.heap.size ≤ b ∧ VRow w' b 78 [.slice (some ⟨G, 0, none⟩) X.length X.length] ∧ NS w.heap.size w' G X ∧ PG.m X = Vd.form m ∧ Up w w' := by
  have HK := hide (isValid_is (decide_eq_true hv) hs hz)
  have HS := hide hs
  have HF := hide hf
  obtain ⟨rfl, -, -⟩ := hs
  obtain ⟨ua, uc, rfl, -⟩ := HS.out.rd
  clear hz hv hf
  go_enter Tryz.func57, Tryz.ntmps57
  go_wp2_with fail
  refine HK.out.mono ?_
  rintro e w2 ⟨rfl, hu⟩
  have HU := hide hu
  have c0 := ((HS.out.up hu).cell).cell (i := 0) rfl
  have HFm := hide (form_any _ m w2 (HS.out.rd.up hu) HF.out)
  clear hu HK
  go_wp2_with fail
  refine HFm.out.mono ?_
  rintro e w3 ⟨G, X, rfl, hN, hE, hu3⟩
  have HU3 := hide (HU.out.trans hu3)
  have hb : Hid (w.heap.size ≤ w2.heap.size) := HU.out.size
  have HN : Hid (NS w.heap.size (w3.alloc (.cells #[.slice (some ⟨G, 0, none⟩) X.length X.length] 78)) G X) :=
    ⟨Nat.le_trans hb.out hN.low, hN.row.up ((Up.refl _).alloc _), fun x hx => ((hN.ok x hx).base hb.out).up ((Up.refl _).alloc _)⟩
  have HE := hide hE
  have HR := hide (VRow.new w3 [.slice (some ⟨G, 0, none⟩) X.length X.length] 78)
  have hs3 : Hid (w.heap.size ≤ w3.heap.size) := HU3.out.size
  clear hN hE hu3 HFm c0
  go_wp2
  go_ret2
  exact ⟨w3.heap.size, G, X, rfl, hs3.out, HR.out, HN.out, HE.out, HU3.out.alloc _⟩
end Go.Proofs.YtcclepohmhdpbaaGreatDoor
