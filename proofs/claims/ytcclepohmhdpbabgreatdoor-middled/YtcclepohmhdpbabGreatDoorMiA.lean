import Derived.Test.YtcclepohmhdpbabGreatDoorTzA
import Derived.Test.YtcclepohmhdpbabGreatDoorGlJ
import Derived.Test.YtcclepohmhdpbabGreatDoorClE
import Derived.Deep.DeepCutAuto
namespace Go.Proofs.YtcclepohmhdpbabGreatDoor
set_option linter.all false
open Go.RowKit Go.Deep
namespace Vd
def midS (r : Ring) (i : Nat) : Ring := ptAt r i :: (if i + 1 < r.length ∧ hasM (ptAt r i) (ptAt r (i + 1)) then [mid2 (ptAt r i) (ptAt r (i + 1))] else [])
def midI (r : Ring) (n : Nat) : Ring := (List.range n).flatMap (midS r)
theorem midI_zero (r : Ring) : midI r 0 = [] := rfl
theorem midI_succ (r : Ring) (n : Nat) : midI r (n + 1) = midI r n ++ midS r n := by unfold midI; rw [List.range_succ, List.flatMap_append]; simp
theorem midS_succ (a : Pnt) (r : Ring) (i : Nat) : midS (a :: r) (i + 1) = midS r i := by
 unfold midS
 have e : ∀ j, ptAt (a :: r) (j + 1) = ptAt r j := fun j => by unfold ptAt; simp
 rw [e, e]
 have : (i + 1 + 1 < (a :: r).length) ↔ (i + 1 < r.length) := by simp
 simp only [this]
theorem midR_cons (a b : Pnt) (t : Ring) : midR (a :: b :: t) = if hasM a b then a :: mid2 a b :: midR (b :: t) else a :: midR (b :: t) := by rw [midR]
theorem midI_all : ∀ r : Ring, midI r r.length = midR r := by
  intro r
  induction r with
  | nil => rfl
  | cons a t ih =>
    have e : midI (a :: t) (a :: t).length = midS (a :: t) 0 ++ midI t t.length := by
      unfold midI
      rw [List.length_cons, List.range_succ_eq_map, List.flatMap_cons, List.flatMap_map]
      congr 1
      simp only [Nat.succ_eq_add_one, midS_succ]
    rw [e, ih]
    cases t with
    | nil => rfl
    | cons b t =>
      rw [midR_cons]
      unfold midS
      have e0 : ptAt (a :: b :: t) 0 = a := rfl
      have e1 : ptAt (a :: b :: t) (0 + 1) = b := rfl
      rw [e0, e1]
      have hl : 0 + 1 < (a :: b :: t).length := by simp
      by_cases q : hasM a b
      · rw [if_pos ⟨hl, q⟩, if_pos q]; rfl
      · rw [if_neg (fun k => q k.2), if_neg q]; rfl
theorem midI_len (r : Ring) (n : Nat) : (midI r n).length ≤ 2 * n := by
  induction n with
  | zero => simp [midI_zero]
  | succ n ih =>
    rw [midI_succ, List.length_append]
    have : (midS r n).length ≤ 2 := by unfold midS; split <;> simp
    omega
end Vd
def OwN (w : World) (N : Nat) (v : Value) (r : Ring) : Prop := w.ownsRow N 48 2 v r.length (flat r)
theorem OwN.fr {S : Nat → Prop} {w w' : World} {N : Nat} {v : Value} {r : Ring} (h : OwN w N v r) (k : Fr S w w') (hs : ∀ b, N ≤ b → ¬ S b) : OwN w' N v r :=
 own_fr h k fun g hg => hs g (own_lt h hg).1
structure MQR (N : Nat) (F : Poly) (w wq : World) (x : D2) (q : Nat) (vs : List Value) : Prop where
 fr : Fr (fun b => b = x.b) w wq
 len : vs.length = q
 row : VRow wq x.b 46 (vs ++ (x.rs.drop q).map D1.v)
 own : ∀ (j : Nat) v r, vs[j]? = some v → F[j]? = some r → OwN wq N v r
theorem MQR.step {N : Nat} {F : Poly} {w wq wz : World} {x : D2} {q : Nat} {vs : List Value} (h : MQR N F w wq x q vs) (hxN : x.b < N) (hq : q < x.rs.length) {X : Ring} (hX : F[q]? = some X) {v : Value} (hu : Up wq wz) (hp : OwN wz N v X) :
  MQR N F w (wz.setCell ⟨x.b, q, none⟩ v) x (q + 1) (vs ++ [v]) := by
 have frs : Fr (fun b => b = x.b) wz (wz.setCell ⟨x.b, q, none⟩ v) := Fr.setCell (S := fun b => b = x.b) (Fr.refl _ _) rfl _
 have new : ∀ b, N ≤ b → ¬ (b = x.b) := fun b hb e => by omega
 refine ⟨(h.fr.trans (Fr.of_up hu)).trans frs, by simp [h.len], ?_, ?_⟩
 ·have := (h.row.of_block (hu.block _ h.row.lt)).set q v
  have e : (vs ++ (x.rs.drop q).map D1.v).set q v = (vs ++ [v]) ++ (x.rs.drop (q + 1)).map D1.v := by
   rw [List.set_append_right _ _ (by rw [h.len]; omega), h.len, Nat.sub_self, List.drop_eq_getElem_cons hq, List.map_cons, List.set_cons_zero]
   simp
  rw [e] at this
  exact this
 ·intro j u r hj hr
  by_cases hlt : j < q
  ·rw [List.getElem?_append_left (by rw [h.len]; exact hlt)] at hj
   have := own_up (h.own j u r hj hr) hu
   exact OwN.fr this frs new
  ·have hjq : j = q := by
    have := Pl.lt_of_some hj
    simp [h.len] at this; omega
   subst hjq
   rw [List.getElem?_append_right (by rw [h.len]; omega), h.len, Nat.sub_self] at hj
   simp at hj
   subst hj
   rw [hX] at hr
   cases hr
   exact OwN.fr hp frs new
def MQD (N : Nat) (w : World) (x : D2) (l : Poly) : Prop := ∃ vs : List Value, vs.length = l.length ∧ VRow w x.b 46 vs ∧ ∀ (j : Nat) v r, vs[j]? = some v → l[j]? = some r → OwN w N v r
theorem MQD.fr {S : Nat → Prop} {N : Nat} {w w' : World} {x : D2} {l : Poly} (h : MQD N w x l) (k : Fr S w w') (hx : ¬ S x.b) (hs : ∀ b, N ≤ b → ¬ S b) : MQD N w' x l := by
 obtain ⟨vs, e1, e2, e3⟩ := h
 exact ⟨vs, e1, k.row e2 hx, fun j v r hv hr => (e3 j v r hv hr).fr k hs⟩
structure MQP (N : Nat) (f : Poly → Poly) (w wq : World) (d : D3) (p : Nat) : Prop where
 up : Up w wq
 sz : N ≤ wq.heap.size
 row : VRow wq d.b 45 (d.ps.map D2.v)
 done : ∀ j x, j < p → d.ps[j]? = some x → MQD N wq x (f x.pts)
 todo : ∀ j x, p ≤ j → d.ps[j]? = some x → OK2 wq x
theorem MQP.step {N : Nat} {f : Poly → Poly} {w wr w1 : World} {d : D3} {p : Nat} (h : MQP N f w wr d p) (hnd : d.bl.Nodup) (hlow : ∀ b ∈ d.bl, w.heap.size ≤ b) (hN : ∀ b ∈ d.bl, b < N) {x : D2} (hx : d.ps[p]? = some x) (hfr : Fr (fun b => b = x.b) wr w1) (ht : MQD N w1 x (f x.pts)) : MQP N f w w1 d (p + 1) := by
 have hxm : x ∈ d.ps := Pl.mem_of_some hx
 have hxb : x.b ∈ d.bl := D3.mem_sub hxm (by simp [D2.bl])
 refine ⟨?_, Nat.le_trans h.sz hfr.size, ?_, ?_, ?_⟩
 ·refine Fr.up (S := fun b => b = x.b) ((Fr.of_up h.up).trans hfr) fun b hb e => ?_
  have := hlow x.b hxb
  omega
 ·exact hfr.row h.row fun e => D3.ne_sub hnd hxm (by rw [e]; simp [D2.bl])
 ·intro j z hj hz
  rcases Nat.lt_or_ge j p with hlt | hge
  ·refine (h.done j z hlt hz).fr hfr ?_ ?_
   ·intro e
    exact D3.apart hnd hz hx (by omega) (b := z.b) (by simp [D2.bl]) (by rw [e]; simp [D2.bl])
   ·intro b hb e
    have := hN x.b hxb
    omega
  ·obtain rfl : j = p := by omega
   rw [hx] at hz; cases hz
   exact ht
 ·intro j z hj hz
  refine hfr.ok2 (h.todo j z (by omega) hz) fun b hb e => ?_
  exact D3.apart hnd hz hx (by omega) hb (by rw [e]; simp [D2.bl])
theorem MQP.rd {N : Nat} {f : Poly → Poly} {w wr : World} {d : D3} (h : MQP N f w wr d d.ps.length) (hf : ∀ l, (f l).length = l.length) : Rd3 wr d.v (d.m.map f) := by
 refine ⟨some ⟨d.b, 0, none⟩, d.ps.length + d.s.length, by unfold D3.v; simp [D3.m], fun i l hl => ?_⟩
 unfold D3.m at hl
 rw [List.getElem?_map, List.getElem?_map] at hl
 obtain ⟨l0, h0, rfl⟩ := Option.map_eq_some_iff.1 hl
 obtain ⟨x, hx, rfl⟩ := Option.map_eq_some_iff.1 h0
 obtain ⟨vs, e1, e2, e3⟩ := h.done i x (Pl.lt_of_some hx) hx
 refine ⟨d.b, x.v, rfl, h.row.cell (by rw [List.getElem?_map, hx]; rfl), some ⟨x.b, 0, none⟩, x.rs.length + x.s.length, by unfold D2.v; rw [hf]; simp [D2.pts], fun j r hr => ?_⟩
 have hj : j < vs.length := by rw [e1]; exact Pl.lt_of_some hr
 obtain ⟨v, hv⟩ := Pl.some_of_lt hj
 exact ⟨x.b, v, rfl, e2.cell hv, own_rd1 (e3 j v r hv hr)⟩
end Go.Proofs.YtcclepohmhdpbabGreatDoor
