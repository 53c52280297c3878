import Derived.Test.YtcclepohmhdpbabGreatDoorCnF
import Derived.Test.YtcclepohmhdpbabGreatDoorTxF
namespace Go.Proofs.YtcclepohmhdpbabGreatDoor
set_option linter.all false
open Go.RowKit Go.Deep
structure PG where
 v : Value
 q : List RG
def PG.l (x : PG) : Poly := x.q.map RG.r
structure QP (base : Nat) (w : World) (v : Value) (X : List PG) : Prop where
 own : w.ownsRow base 45 1 v X.length (X.map PG.v)
 ok : ∀ x ∈ X, QF base w x.v x.q
theorem QF.base {base base' : Nat} {w : World} {v : Value} {Q : List RG} (h : QF base w v Q) (hb : base' ≤ base) : QF base' w v Q := ⟨own_base h.own hb, fun q hq => ⟨Nat.le_trans hb (h.ok q hq).1, (h.ok q hq).2⟩⟩
theorem QF.byP {base base' n : Nat} {w w' : World} {v u : Value} {Q : List RG} {xs : List Value} (h : QF base w v Q) (k : w.ownsRow base' 45 1 u n xs) (hg : w.grownBy w' u.ownBlock) : QF base w' v Q :=
 ⟨own_grown h.own k (by decide) hg, fun x hx => (h.ok x hx).grown k (by decide) hg⟩
theorem QP.nil (base : Nat) (w : World) : QP base w (.slice none 0 0) [] := ⟨World.ownsRow_nil _ _ _ _, fun q hq => by simp at hq⟩
theorem QP.up {base : Nat} {w w' : World} {v : Value} {X : List PG} (h : QP base w v X) (k : Up w w') : QP base w' v X := ⟨own_up h.own k, fun q hq => (h.ok q hq).up k⟩
theorem QP.push {base : Nat} {w w' : World} {v : Value} {X : List PG} {x : PG} {g cap : Nat} (h : QP base w v X) (hx : QF base w x.v x.q) (hg : w.grownBy w' v.ownBlock) (hown : w'.ownsRow base 45 1 (.slice (some ⟨g, 0, none⟩) (X.length + 1) cap) (X.length + 1) (X.map PG.v ++ [x.v])) : QP base w' (.slice (some ⟨g, 0, none⟩) (X.length + 1) cap) (X ++ [x]) := by
 refine ⟨by rw [List.map_append, List.length_append]; exact hown, fun y hy => ?_⟩
 rcases List.mem_append.1 hy with hy | hy
 ·exact (h.ok y hy).byP h.own hg
 ·rw [List.mem_singleton.1 hy]; exact hx.byP h.own hg
theorem QF.rc {base : Nat} {w : World} {v : Value} {Q : List RG} (h : QF base w v Q) : Rc2 w v (Q.map RG.r) := by
 obtain ⟨ao, cap, e⟩ := own_len h.own
 refine ⟨ao, cap, by rw [e, List.length_map], ?_, fun i r hr => ?_⟩
 ·rw [List.length_map]
  rcases h.own.2 with ⟨e2, h0⟩ | ⟨g, cap', cur, e2, hb, hh, hc⟩
  ·rw [h0]; exact Nat.zero_le _
  ·rw [e] at e2; cases e2; exact hc.1
 ·rw [List.getElem?_map, Option.map_eq_some_iff] at hr
  obtain ⟨q, hq, rfl⟩ := hr
  obtain ⟨g, cap', e', hc⟩ := own_cell h.own (by have := Pl.lt_of_some hq; omega)
  rw [e] at e'
  cases e'
  exact ⟨g, q.v, rfl, hc i _ (by rw [List.getElem?_map, hq]; rfl), (h.ok q (Pl.mem_of_some hq)).rd⟩
namespace Vd
theorem ord_mem {m : Mult} {x : Poly} (h : x ∈ inOrder m) : x ∈ m := by
 obtain ⟨j, hj⟩ := List.getElem?_of_mem h
 have hl := Pl.lt_of_some hj
 rw [inOrder_len] at hl
 obtain ⟨i, hi, e⟩ := cnt_surj (m := m) hl
 have := inOrder_at m hi
 rw [e, hj] at this
 cases this
 obtain ⟨l, hl⟩ := Pl.some_of_lt hi
 unfold pAt; rw [List.getD_eq_getElem?_getD, hl]; exact Pl.mem_of_some hl
theorem polyForm_mem {l : Poly} {x : Ring} (h : x ∈ polyForm l) : ∃ r ∈ l, ∃ b, x = ringForm r b := by
  cases l with
  | nil => simp [polyForm] at h
  | cons r0 t =>
    rw [polyForm] at h
    rcases List.mem_cons.1 h with rfl | h
    · exact ⟨r0, by simp, true, rfl⟩
    · obtain ⟨p, hp, hx⟩ := List.mem_flatten.1 h
      obtain ⟨r, hr, rfl⟩ := List.mem_map.1 (ord_mem hp)
      exact ⟨r, by simp [hr], false, List.mem_singleton.1 hx⟩
theorem flatten_ones {m : Mult} (h : ∀ x ∈ m, x.length = 1) : m.flatten.length = m.length := by
 induction m with
 | nil => rfl
 | cons a t ih => rw [List.flatten_cons, List.length_append, h a (by simp), ih fun x hx => h x (by simp [hx]), List.length_cons]; omega
theorem polyForm_len (l : Poly) : (polyForm l).length = l.length := by
  cases l with
  | nil => rfl
  | cons r0 t =>
    rw [polyForm, List.length_cons, List.length_cons, flatten_ones, inOrder_len]
    · unfold holesF; rw [List.length_map]
    · intro x hx
      obtain ⟨r, _, rfl⟩ := List.mem_map.1 (ord_mem hx)
      rfl
end Vd
def PG.m (X : List PG) : Mult := X.map PG.l
theorem PG.m_len (X : List PG) : (PG.m X).length = X.length := by simp [PG.m]
theorem QP.rd {base : Nat} {w : World} {v : Value} {X : List PG} (h : QP base w v X) : Rd3 w v (PG.m X) ∧ Vls w v (X.map PG.v) := by
 obtain ⟨ao, cap, e⟩ := own_len h.own
 have key : ∀ i x, X[i]? = some x → ∃ g, ao = some ⟨g, 0, none⟩ ∧ w.cell? ⟨g, i, none⟩ = some x.v := fun i x hx => by
  obtain ⟨g, cap', e', hc⟩ := own_cell h.own (by have := Pl.lt_of_some hx; omega)
  rw [e] at e'
  cases e'
  exact ⟨g, rfl, hc i _ (by rw [List.getElem?_map, hx]; rfl)⟩
 constructor
 ·refine ⟨ao, cap, by rw [e, PG.m_len], fun i l hl => ?_⟩
  unfold PG.m at hl
  rw [List.getElem?_map, Option.map_eq_some_iff] at hl
  obtain ⟨x, hx, rfl⟩ := hl
  obtain ⟨g, eg, c⟩ := key i x hx
  exact ⟨g, x.v, eg, c, (h.ok x (Pl.mem_of_some hx)).rc.rd⟩
 ·refine ⟨ao, cap, by rw [e, List.length_map], fun i u hu => ?_⟩
  rw [List.getElem?_map, Option.map_eq_some_iff] at hu
  obtain ⟨x, hx, rfl⟩ := hu
  obtain ⟨g, eg, c⟩ := key i x hx
  exact ⟨g, eg, c⟩
def ordP (X : List PG) : List PG := Vd.layN (fun i => Vd.cntA (PG.m X) i X.length) (fun i => X.getD i ⟨.slice none 0 0, []⟩) (List.replicate X.length ⟨.slice none 0 0, []⟩) X.length
theorem ordP_len (X : List PG) : (ordP X).length = X.length := by unfold ordP; rw [Vd.layN_len]; simp
theorem ordP_at {X : List PG} {j : Nat} (hj : j < X.length) : ∃ (i : Nat) (x : PG), X[i]? = some x ∧ Vd.cntA (PG.m X) i X.length = j ∧ (ordP X)[j]? = some x := by
 obtain ⟨i, hi, e⟩ := Vd.cnt_surj (m := PG.m X) hj
 obtain ⟨x, hx⟩ := Pl.some_of_lt hi
 refine ⟨i, x, hx, e, ?_⟩
 rw [← e]
 unfold ordP
 rw [Vd.layN_at (f := fun i => Vd.cntA (PG.m X) i X.length) (N := X.length) (fun i h => by simpa using Vd.cnt_small h) (fun i k h1 h2 => Vd.cnt_inj h1 h2) X.length (Nat.le_refl _) i hi, List.getD_eq_getElem?_getD, hx]; rfl
theorem ordP_mem {X : List PG} {x : PG} (h : x ∈ ordP X) : x ∈ X := by
 obtain ⟨j, hj⟩ := List.getElem?_of_mem h
 have := Pl.lt_of_some hj
 rw [ordP_len] at this
 obtain ⟨i, y, hy, -, e⟩ := ordP_at this
 rw [hj] at e
 cases e
 exact Pl.mem_of_some hy
theorem ordP_vals (X : List PG) : layV (PG.m X) (X.map PG.v) (PG.m X).length = (ordP X).map PG.v := by
 refine List.ext_getElem? fun j => ?_
 rcases Nat.lt_or_ge j X.length with hj | hj
 ·obtain ⟨i, x, hx, e, ho⟩ := ordP_at hj
  rw [List.getElem?_map, ho]
  have := layV_at (m := PG.m X) (us := X.map PG.v) (i := i) (by rw [PG.m_len]; exact Pl.lt_of_some hx)
  rw [PG.m_len, e] at this
  rw [PG.m_len, this, usAt_some (u := x.v) (by rw [List.getElem?_map, hx]; rfl)]; rfl
 ·rw [List.getElem?_eq_none (by rw [layV_len, PG.m_len]; exact hj), List.getElem?_eq_none (by rw [List.length_map, ordP_len]; exact hj)]
theorem ordP_polys (X : List PG) : Vd.inOrder (PG.m X) = (ordP X).map PG.l := by
 refine List.ext_getElem? fun j => ?_
 rcases Nat.lt_or_ge j X.length with hj | hj
 ·obtain ⟨i, x, hx, e, ho⟩ := ordP_at hj
  rw [List.getElem?_map, ho]
  have := Vd.inOrder_at (PG.m X) (i := i) (by rw [PG.m_len]; exact Pl.lt_of_some hx)
  rw [PG.m_len, e] at this
  rw [this]
  have h2 : (PG.m X)[i]? = some x.l := by unfold PG.m; rw [List.getElem?_map, hx]; rfl
  rw [pAt_some h2]; rfl
 ·rw [List.getElem?_eq_none (by rw [Vd.inOrder_len, PG.m_len]; exact hj), List.getElem?_eq_none (by rw [List.length_map, ordP_len]; exact hj)]
structure FZ (m : Mult) : Prop where
 len : m.length ≤ 1048576
 poly : ∀ l ∈ m, l.length ≤ 1048576
 ring : ∀ l ∈ m, ∀ r ∈ l, RZ r
structure NS (base : Nat) (w : World) (G : Nat) (X : List PG) : Prop where
 low : base ≤ G
 row : VRow w G 45 (X.map PG.v)
 ok : ∀ x ∈ X, QF base w x.v x.q
set_option maxRecDepth 8000 in
set_option maxHeartbeats 8000000 in
theorem form_any (v : Value) (m : Mult) (w : World) (hv : Rd3 w v m) (hz : FZ m) :
  Calls Tryz.prog 32 #[v] w fun e w' => ∃ (G : Nat) (X : List PG), e = .returned (.slice (some ⟨G, 0, none⟩) X.length X.length) ∧ NS w.heap.size w' G X ∧ PG.m X = Vd.form m ∧ Up w w' := by
 obtain ⟨ao, cap, rfl, hm⟩ := hv
 have HM := hide hm
 have HZ := hide hz
 have hl := hz.len
 have HDf : Hid (Vd.form m = Vd.inOrder (m.map Vd.polyForm)) := rfl
 clear hm hz
 go_enter Tryz.func32, Tryz.ntmps32
 go_wp2
 go_loopw [3, 8] (fun fv i wr => ∃ (k : Nat) (u : Value) (X : List PG), i = .int .i64 k ∧ u = fv ∧ k ≤ m.length ∧ Hid (Up w wr) ∧ Hid (QP w.heap.size wr u X) ∧ Hid (PG.m X = (m.take k).map Vd.polyForm)) (fun _ i _ => m.length - (intOf i).toNat)
 case atStart => exact ⟨0, _, [], rfl, rfl, Nat.zero_le _, Up.refl _, QP.nil _ _, rfl⟩
 case round =>
  obtain ⟨k, u, X, rfl, rfl, hk, HU, HQ, HE⟩ := hrel
  have hXl : X.length = k := by
   have := congrArg List.length HE.out
   rw [PG.m_len, List.length_map, List.length_take] at this
   omega
  by_cases hlt : k < m.length
  ·obtain ⟨l, hr⟩ := Pl.some_of_lt hlt
   obtain ⟨b, y, rfl, cy, hy⟩ := HM.out k l hr
   have e0 := HU.out.cell cy
   have HKp := hide (polygonForm_any y l wr (hy.up HU.out) (HZ.out.poly l (Pl.mem_of_some hr)) (HZ.out.ring l (Pl.mem_of_some hr)))
   have HEn : Hid (∀ x : PG, x.l = Vd.polyForm l → PG.m (X ++ [x]) = (m.take (k + 1)).map Vd.polyForm) := fun x hx => by
    unfold PG.m at *
    rw [List.map_append, HE.out, Pl.take_one hr, List.map_append]; simp [hx]
   have i1 : (0 : Int) ≤ (k : Int) := by omega
   have i2 : (k : Int) < (m.length : Int) := by omega
   have hsz : Hid (w.heap.size ≤ wr.heap.size) := HU.out.size
   have hXb : Hid (X.length ≤ 1073741824) := by show _ ≤ _; omega
   clear hr cy hy hXl
   go_wp2_with fail
   refine HKp.out.mono ?_
   rintro e w2 ⟨fv, Q, rfl, hQF, hQe, hu2⟩
   have HU2 := hide hu2
   have HQF := hide (hQF.base hsz.out)
   have HQe := hide hQe
   obtain ⟨fa, fc, rfl⟩ := own_len hQF.own
   clear hu2 hQF hQe e0 HKp
   have HUa : Hid (Up wr (w2.alloc (.cells #[.slice fa Q.length fc] 45))) := HU2.out.alloc _
   have HFa : Hid (QF w.heap.size (w2.alloc (.cells #[.slice fa Q.length fc] 45)) (.slice fa Q.length fc) Q) := HQF.out.up ((Up.refl _).alloc _)
   have HQa := hide (HQ.out.up HUa.out)
   have hHeap : Hid ((w2.alloc (.cells #[.slice fa Q.length fc] 45)).heap[w2.heap.size]? = some (.cells [Value.slice fa Q.length fc].toArray 45 (0, 0))) := VRow.new w2 [.slice fa Q.length fc] 45
   have hBs : Hid (w.heap.size ≤ (w2.alloc (.cells #[.slice fa Q.length fc] 45)).heap.size) := by
    have := Nat.le_trans hsz.out HU2.out.size; simp [Hid]; omega
   obtain ⟨ua, uc, rfl⟩ := own_len HQ.out.own
   go_wp2_with (at_builtin; refine wpList_app el_polys rfl (.tmp 12) (.tmp 15) rfl w.heap.size _ _ _ (by rfl) HQa.out.own w2.heap.size [.slice fa Q.length fc] (by rfl) rfl hHeap.out (by intro z hz; simp at hz; subst hz; rfl) hXb.out hBs.out ?_; intro g5 cap5 w5 hown5 hg5 hat5 hlt5; have HQ5 := hide (HQa.out.push (x := ⟨.slice fa Q.length fc, Q⟩) HFa.out hg5 hown5); have HU5 : Hid (Up w w5) := Fr.up (S := fun _ => False) ((Fr.of_up (HU.out.trans HUa.out)).grown hg5 fun z hz => .inr (own_lt HQ.out.own hz).1) (fun _ _ h => h); clear hown5 hg5 hat5 hlt5)
   go_roundw
   case rel => exact ⟨k + 1, _, _, by go_num, rfl, by omega, HU5, HQ5, HEn.out _ HQe.out⟩
   case measure => simp [intOf]; omega
  ·have i2 : ¬ (k : Int) < (m.length : Int) := by omega
   have HEf : Hid (PG.m X = m.map Vd.polyForm) := by have := HE.out; rw [show k = m.length by omega, List.take_length] at this; exact this
   have HIO := hide (inOrder_any _ (PG.m X) (X.map PG.v) wr HQ.out.rd.1 HQ.out.rd.2 (by rw [List.length_map, PG.m_len]) (by rw [PG.m_len]; omega) (fun p hp => by
    rw [HEf.out] at hp
    obtain ⟨l, hl, rfl⟩ := List.mem_map.1 hp
    rw [Vd.polyForm_len]; exact HZ.out.poly l hl) (fun p hp r hr => by
    rw [HEf.out] at hp
    obtain ⟨l, hl, rfl⟩ := List.mem_map.1 hp
    obtain ⟨r0, hr0, b, rfl⟩ := Vd.polyForm_mem hr
    exact form_len (HZ.out.ring l hl r0 hr0)))
   rw [ordP_vals, PG.m_len] at HIO
   have HRf : Hid (PG.m (ordP X) = Vd.form m) := by rw [HDf.out, ← HEf.out, ordP_polys]; exact rfl
   have hOl : (ordP X).length = X.length := ordP_len X
   have HOk : Hid (∀ x ∈ ordP X, QF w.heap.size wr x.v x.q) := fun x hx => HQ.out.ok x (ordP_mem hx)
   have hsz : Hid (w.heap.size ≤ wr.heap.size) := HU.out.size
   obtain ⟨ua, uc, rfl⟩ := own_len HQ.out.own
   generalize ordP X = O at *
   clear hXl
   go_wp2_with fail
   refine HIO.out.mono ?_
   rintro e w2 ⟨G, rfl, hG, hRow, hu2⟩
   have HN : Hid (NS w.heap.size w2 G O) := ⟨Nat.le_trans hsz.out hG, hRow, fun x hx => (HOk.out x hx).up hu2⟩
   have HU2 := hide (HU.out.trans hu2)
   rw [← hOl]
   clear hG hRow hu2 HIO
   go_wp2
   go_ret
   exact ⟨G, O, by rw [hOl]; rfl, HN.out, HRf.out, HU2.out⟩
end Go.Proofs.YtcclepohmhdpbabGreatDoor
