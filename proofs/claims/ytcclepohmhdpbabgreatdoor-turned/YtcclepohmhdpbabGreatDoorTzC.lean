import Derived.Test.YtcclepohmhdpbabGreatDoorTzA
import Derived.Test.YtcclepohmhdpbabGreatDoorGkG
import Derived.Test.YtcclepohmhdpbabGreatDoorMvA
import Derived.Deep.DeepCutAuto
namespace Go.Proofs.YtcclepohmhdpbabGreatDoor
set_option linter.all false
open Go.RowKit Go.Deep
def pkN (c : Int) (n : Nat) : Nat := ((if c < 0 then -(c + 1) else c) % (n : Int)).toNat
theorem pkN_lt (c : Int) {n : Nat} (h : 0 < n) : pkN c n < n := by
  unfold pkN
  have h1 := Int.emod_nonneg (if c < 0 then -(c + 1) else c) (show (n : Int) ≠ 0 by omega)
  have h2 := Int.emod_lt_of_pos (if c < 0 then -(c + 1) else c) (show (0 : Int) < n by omega)
  omega
set_option maxRecDepth 100000 in
theorem pickn_any (c : Int) (h1 : -9223372036854775808 ≤ c) (h2 : c ≤ 9223372036854775807) (n : Nat) (hn : 0 < n) (w : World) :
    Calls Tryz.prog 14 #[.int .i64 c, .int .i64 n] w fun e w' => e = .returned (.int .i64 (pkN c n)) ∧ w' = w := by
  have hn0 : ((n : Int) == 0) = false := beq_eq_false_iff_ne.2 (by omega)
  have hn1 : ((n : Int) = 0) = False := eq_false (by omega)
  have key : ∀ z : Int, 0 ≤ z → z.tmod n = ((z % (n : Int)).toNat : Int) := fun z hz => by
    rw [Int.tmod_eq_emod_of_nonneg hz, Int.toNat_of_nonneg (Int.emod_nonneg _ (by omega))]
  by_cases h0 : c < 0
  · have e1 : wrap64 (c + 1) = c + 1 := by unfold wrap64; omega
    have e2 : wrap64 (-(c + 1)) = -(c + 1) := by unfold wrap64; omega
    have ek := key (-(c + 1)) (by omega)
    have ep : pkN c n = ((-(c + 1)) % (n : Int)).toNat := by unfold pkN; rw [if_pos h0]
    rw [ep]
    clear ep key
    generalize ((-(c + 1)) % (n : Int)).toNat = kk at ek ⊢
    go_enter Tryz.func14, Tryz.ntmps14
    go_wp2
    go_ret
    refine ⟨?_, rfl⟩
    first | rfl | (rw [← ek]; rfl) | (simp only [← ek]; done) | (rw [← ek, Int.neg_tmod])
  · have ek := key c (by omega)
    have ep : pkN c n = (c % (n : Int)).toNat := by unfold pkN; rw [if_neg h0]
    rw [ep]
    clear ep key
    generalize (c % (n : Int)).toNat = kk at ek ⊢
    go_enter Tryz.func14, Tryz.ntmps14
    go_wp2
    go_ret
    refine ⟨?_, rfl⟩
    first | rfl | (rw [← ek]) | (rw [← ek]; rfl)
structure RvI {α : Type} (L : List α) (i : Nat) (L' : List α) : Prop where
  len : L'.length = L.length
  at_ : ∀ t, t < L.length → L'[t]? = if t < i ∨ L.length - i ≤ t then L[L.length - 1 - t]? else L[t]?
theorem RvI.zero {α : Type} (L : List α) : RvI L 0 L := ⟨rfl, fun t ht => by rw [if_neg (by omega)]⟩
theorem RvI.lo {α : Type} {L L' : List α} {i : Nat} (h : RvI L i L') (hi : i < L.length / 2) : L'[i]? = L[i]? := by rw [h.at_ i (by omega), if_neg (by omega)]
theorem RvI.hi {α : Type} {L L' : List α} {i : Nat} (h : RvI L i L') (hi : i < L.length / 2) : L'[L.length - 1 - i]? = L[L.length - 1 - i]? := by rw [h.at_ _ (by omega), if_neg (by omega)]
theorem RvI.step {α : Type} {L L' : List α} {i : Nat} (h : RvI L i L') (hi : i < L.length / 2) {x y : α} (hx : L[i]? = some x) (hy : L[L.length - 1 - i]? = some y) : RvI L (i + 1) ((L'.set i y).set (L.length - 1 - i) x) := by
  refine ⟨by simp [h.len], fun t ht => ?_⟩
  have hl := h.len
  by_cases h1 : t = L.length - 1 - i
  · subst h1
    rw [List.getElem?_set_self (by simp; omega), if_pos (by omega), show L.length - 1 - (L.length - 1 - i) = i by omega, hx]
  · rw [List.getElem?_set_ne (by omega)]
    by_cases h2 : t = i
    · subst h2
      rw [List.getElem?_set_self (by omega), if_pos (by omega), hy]
    · rw [List.getElem?_set_ne (by omega), h.at_ t ht]
      by_cases h3 : t < i ∨ L.length - i ≤ t
      · rw [if_pos h3, if_pos (by omega)]
      · rw [if_neg h3, if_neg (by omega)]
theorem RvI.last {α : Type} {L L' : List α} {i : Nat} (h : RvI L i L') (hi : i = L.length / 2) : L' = L.reverse := by
  refine List.ext_getElem? fun t => ?_
  by_cases ht : t < L.length
  · rw [h.at_ t ht, List.getElem?_reverse ht]
    split
    · rfl
    · rename_i q
      rw [show L.length - 1 - t = t by omega]
  · rw [List.getElem?_eq_none (by rw [h.len]; omega), List.getElem?_eq_none (by simp; omega)]
def cpy (X : Ring) (i : Nat) : Ring := X.take i ++ zpts (X.length - i)
theorem cpy_zero (X : Ring) : cpy X 0 = zpts X.length := by simp [cpy]
theorem cpy_full (X : Ring) : cpy X X.length = X := by simp [cpy, zpts]
theorem cpy_at {X : Ring} {i : Nat} (h : i < X.length) : (cpy X i)[i]? = some (0, 0) := by
  unfold cpy
  rw [List.getElem?_append_right (by simp; omega), List.length_take, Nat.min_eq_left (by omega), Nat.sub_self]
  exact rep_at (by omega)
theorem cpy_step {X : Ring} {i : Nat} {p : Pnt} (h : X[i]? = some p) : (cpy X i).set i p = cpy X (i + 1) := by
  have hi := Pl.lt_of_some h
  have e : X.length - i = (X.length - (i + 1)) + 1 := by omega
  unfold cpy zpts
  rw [e]
  have := set_at (X.take i) (0, 0) p (X.length - (i + 1))
  rw [List.length_take, Nat.min_eq_left (by omega)] at this
  rw [this, Pl.take_one h]
theorem rotR_get {r : Ring} {k i : Nat} (hi : i ≤ Vd.per r) : (Vd.rotR r k)[i]? = some (Vd.ptAt r ((i + k) % Vd.per r)) := by
  unfold Vd.rotR
  rw [List.getElem?_map, List.getElem?_range (by omega)]; rfl
structure Yok (w : World) (N : Nat) (ys : List D1) : Prop where
  bare : ∀ y ∈ ys, y.s = []
  ok : ∀ y ∈ ys, OK1 w y
  new : ∀ y ∈ ys, N ≤ y.b
theorem Yok.fr {S : Nat → Prop} {w w' : World} {N : Nat} {ys : List D1} (h : Yok w N ys) (k : Fr S w w') (hs : ∀ b, N ≤ b → ¬ S b) : Yok w' N ys :=
  ⟨h.bare, fun y hy => k.ok1 (h.ok y hy) (hs _ (h.new y hy)), h.new⟩
structure TR (N : Nat) (F : Poly) (w wq : World) (x : D2) (q : Nat) (ys : List D1) : Prop where
  fr : Fr (fun b => b = x.b) w wq
  rs : ys.map D1.r = F.take q
  len : ys.length = q
  row : VRow wq x.b 46 ((ys ++ x.rs.drop q).map D1.v)
  ok : Yok wq N ys
theorem TR.step {N : Nat} {F : Poly} {w wq wz : World} {x : D2} {q : Nat} {ys : List D1} (h : TR N F w wq x q ys) (hN : N ≤ wq.heap.size) (hxN : x.b < N) (hq : q < x.rs.length) {X : Ring} (hX : F[q]? = some X) {cb : Nat} (hcb : wq.heap.size ≤ cb) (hu : Up wq wz) (hp : PRow wz cb X) :
    TR N F w (wz.setCell ⟨x.b, q, none⟩ (.slice (some ⟨cb, 0, none⟩) X.length X.length)) x (q + 1) (ys ++ [D1.mk cb X []]) := by
  refine ⟨(h.fr.trans (Fr.of_up hu)).setCell rfl _, ?_, by simp [h.len], ?_, ?_, ?_, ?_⟩
  · rw [List.map_append, h.rs, Pl.take_one hX]; rfl
  · have := (h.row.of_block (hu.block _ h.row.lt)).set q (.slice (some ⟨cb, 0, none⟩) X.length X.length)
    have e : ((ys ++ x.rs.drop q).map D1.v).set q (.slice (some ⟨cb, 0, none⟩) X.length X.length) = ((ys ++ [D1.mk cb X []]) ++ x.rs.drop (q + 1)).map D1.v := by
      rw [List.map_append, List.set_append_right _ _ (by rw [List.length_map, h.len]; omega), List.length_map, h.len, Nat.sub_self, List.drop_eq_getElem_cons hq, List.map_cons, List.set_cons_zero]
      simp [D1.v]
    rw [e] at this
    exact this
  · intro y hy
    rcases List.mem_append.1 hy with hy | hy
    · exact h.ok.bare y hy
    · simp at hy; subst hy; rfl
  · intro y hy
    rcases List.mem_append.1 hy with hy | hy
    · have h1 := (h.ok.ok y hy).up hu
      have := h.ok.new y hy
      exact VRow.setOther h1 (by show y.b ≠ x.b; omega) _
    · simp at hy; subst hy
      have : PRow wz cb (X ++ []) := by rw [List.append_nil]; exact hp
      exact VRow.setOther this (by show cb ≠ x.b; omega) _
  · intro y hy
    rcases List.mem_append.1 hy with hy | hy
    · exact h.ok.new y hy
    · simp at hy; subst hy; show N ≤ cb; omega
def TD (N : Nat) (w : World) (x : D2) (l : Poly) : Prop := ∃ ys : List D1, ys.map D1.r = l ∧ VRow w x.b 46 (ys.map D1.v) ∧ Yok w N ys
structure TP (N : Nat) (f : Poly → Poly) (w wq : World) (d : D3) (p : Nat) : Prop where
  up : Up w wq
  sz : N ≤ wq.heap.size
  row : VRow wq d.b 45 (d.ps.map D2.v)
  done : ∀ j x, j < p → d.ps[j]? = some x → TD N wq x (f x.pts)
  todo : ∀ j x, p ≤ j → d.ps[j]? = some x → OK2 wq x
theorem TP.step {N : Nat} {f : Poly → Poly} {w wr w1 : World} {d : D3} {p : Nat} (h : TP N f w wr d p) (hnd : d.bl.Nodup) (hlow : ∀ b ∈ d.bl, w.heap.size ≤ b) (hN : ∀ b ∈ d.bl, b < N) {x : D2} (hx : d.ps[p]? = some x) (hfr : Fr (fun b => b = x.b) wr w1) (ht : TD N w1 x (f x.pts)) : TP N f w w1 d (p + 1) := by
  have hxm : x ∈ d.ps := Pl.mem_of_some hx
  have hxb : x.b ∈ d.bl := D3.mem_sub hxm (by simp [D2.bl])
  refine ⟨?_, Nat.le_trans h.sz hfr.size, ?_, ?_, ?_⟩
  · refine Fr.up (S := fun b => b = x.b) ((Fr.of_up h.up).trans hfr) fun b hb e => ?_
    have := hlow x.b hxb
    omega
  · exact hfr.row h.row fun e => D3.ne_sub hnd hxm (by rw [e]; simp [D2.bl])
  · intro j z hj hz
    rcases Nat.lt_or_ge j p with hlt | hge
    · obtain ⟨ys, e1, e2, e3⟩ := h.done j z hlt hz
      refine ⟨ys, e1, hfr.row e2 ?_, e3.fr hfr ?_⟩
      · intro e
        exact D3.apart hnd hz hx (by omega) (b := z.b) (by simp [D2.bl]) (by rw [e]; simp [D2.bl])
      · intro b hb e
        have := hN x.b hxb
        omega
    · obtain rfl : j = p := by omega
      rw [hx] at hz; cases hz
      exact ht
  · intro j z hj hz
    refine hfr.ok2 (h.todo j z (by omega) hz) fun b hb e => ?_
    exact D3.apart hnd hz hx (by omega) hb (by rw [e]; simp [D2.bl])
theorem rd_rev {N : Nat} {w : World} {d : D3} {f : Poly → Poly} (hf : ∀ l, (f l).length = l.length) (hN : N ≤ w.heap.size) {vs : List D2} (hvs : vs = d.ps.reverse) (hrow : VRow w d.b 45 (vs.map D2.v)) (hd : ∀ x ∈ d.ps, x.s = [] ∧ TD N w x (f x.pts)) (hs : d.s = []) :
    Rd3 w d.v ((d.m.map f).reverse) := by
  refine ⟨some ⟨d.b, 0, none⟩, d.ps.length + d.s.length, by unfold D3.v; simp [D3.m], fun i l hl => ?_⟩
  unfold D3.m at hl
  rw [← List.map_reverse, ← List.map_reverse, ← hvs, List.getElem?_map, List.getElem?_map] at hl
  obtain ⟨l0, h0, rfl⟩ := Option.map_eq_some_iff.1 hl
  obtain ⟨x, hx, rfl⟩ := Option.map_eq_some_iff.1 h0
  have hxm : x ∈ d.ps := by
    have := Pl.mem_of_some hx
    rw [hvs] at this
    exact List.mem_reverse.1 this
  obtain ⟨hxs, ys, e1, e2, e3⟩ := hd x hxm
  refine ⟨d.b, x.v, rfl, hrow.cell (by rw [List.getElem?_map, hx]; rfl), some ⟨x.b, 0, none⟩, x.rs.length + x.s.length, by unfold D2.v; rw [hf]; simp [D2.pts], fun j r hr => ?_⟩
  rw [← e1, List.getElem?_map] at hr
  obtain ⟨y, hy, rfl⟩ := Option.map_eq_some_iff.1 hr
  exact ⟨x.b, y.v, rfl, e2.cell (by rw [List.getElem?_map, hy]; rfl), (e3.ok y (Pl.mem_of_some hy)).rd⟩
end Go.Proofs.YtcclepohmhdpbabGreatDoor
