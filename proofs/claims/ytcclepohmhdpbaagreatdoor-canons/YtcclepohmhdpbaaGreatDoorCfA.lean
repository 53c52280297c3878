import Derived.Test.YtcclepohmhdpbaaGreatDoorCnC
import Derived.Test.YtcclepohmhdpbaaGreatDoorGhC
import Derived.Test.YtcclepohmhdpbaaGreatDoorWalkC
import Derived.Test.YtcclepohmhdpbaaGreatDoorInv
import Derived.Test.YtcclepohmhdpbaaGreatDoorCdB
/- THE WALKS: package canon: inOrder. -/
namespace Go.Proofs.YtcclepohmhdpbaaGreatDoor
set_option linter.all false
open Go.RowKit Go.Deep

/-- A list's values. -/
def Vls (w : World) (v : Value) (us : List Value) : Prop := ∃ ao cap, v = .slice ao us.length cap ∧ ∀ i u, us[i]? = some u → ∃ b, ao = some ⟨b, 0, none⟩ ∧ w.cell? ⟨b, i, none⟩ = some u
theorem Vls.up {w w' : World} {v : Value} {us : List Value} (h : Vls w v us) (k : Up w w') : Vls w' v us := by
  obtain ⟨ao, cap, e, h⟩ := h
  exact ⟨ao, cap, e, fun i u hu => by obtain ⟨b, eb, c⟩ := h i u hu; exact ⟨b, eb, k.cell c⟩⟩
def usAt (us : List Value) (i : Nat) : Value := us.getD i (.slice none 0 0)
theorem usAt_some {us : List Value} {i : Nat} {u : Value} (h : us[i]? = some u) : usAt us i = u := by unfold usAt; rw [List.getD_eq_getElem?_getD, h]; rfl
/-- The values in the order of their polygons. -/
def layV (m : Mult) (us : List Value) (n : Nat) : List Value := Vd.layN (fun i => Vd.cntA m i m.length) (usAt us) (znil m.length) n
theorem layV_len (m : Mult) (us : List Value) (n : Nat) : (layV m us n).length = m.length := by unfold layV; rw [Vd.layN_len]; simp [znil]
theorem layV_succ (m : Mult) (us : List Value) (n : Nat) : layV m us (n + 1) = (layV m us n).set (Vd.cntA m n m.length) (usAt us n) := by unfold layV; rw [Vd.layN_succ]
theorem layV_at {m : Mult} {us : List Value} {i : Nat} (hi : i < m.length) : (layV m us m.length)[Vd.cntA m i m.length]? = some (usAt us i) :=
  Vd.layN_at (f := fun i => Vd.cntA m i m.length) (N := m.length) (fun i h => by simpa [znil] using Vd.cnt_small h) (fun i k h1 h2 => Vd.cnt_inj h1 h2) m.length (Nat.le_refl _) i hi
set_option maxRecDepth 8000 in
set_option maxHeartbeats 4000000 in
theorem inOrder_any (v : Value) (m : Mult) (us : List Value) (w : World) (hv : Rd3 w v m) (hu : Vls w v us) (hlen : us.length = m.length) (hm : m.length ≤ 1048576) (hl : ∀ l ∈ m, l.length ≤ 1048576) (hr : ∀ l ∈ m, ∀ r ∈ l, r.length ≤ 1048576) :
    Calls Tryz.prog 132 #[v] w fun e w' => ∃ G : Nat, e = .returned (.slice (some ⟨G, 0, none⟩) m.length m.length) ∧ w.heap.size ≤ G ∧ VRow w' G 33 (layV m us m.length) ∧ Up w w' := by
  have HL := hide hl
  have HR := hide hr
  obtain ⟨ao, cap, rfl, hU⟩ := hu
  have HUs := hide hU
  have HLn := hide hlen
  rw [hlen] at hv ⊢
  have HV := hide hv
  have HSl : Hid (∀ (i : Nat) (u : Value), us[i]? = some u → ∃ a n c, u = .slice a n c) := fun i u hu => by
    obtain ⟨b, e, c⟩ := HUs.out i u hu
    obtain ⟨ao2, cap2, e2, h2⟩ := HV.out
    cases e2
    obtain ⟨l, hl⟩ := Pl.some_of_lt (show i < m.length by rw [← HLn.out]; exact Pl.lt_of_some hu)
    obtain ⟨b', u', e', c', hu'⟩ := h2 i l hl
    rw [e] at e'
    cases e'
    rw [c] at c'
    cases c'
    obtain ⟨a, cp, rfl, -⟩ := hu'
    exact ⟨_, _, _, rfl⟩
  have hmk := make_polys m.length (by omega)
  clear hv hl hr hU hlen
  go_enter Tryz.func132, Tryz.ntmps132
  go_wp2
  have HUp : Hid (Up w (w.alloc (.cells (znil m.length).toArray 33))) := (Up.refl _).alloc _
  have RB : Hid (VRow (w.alloc (.cells (znil m.length).toArray 33)) w.heap.size 33 (layV m us 0)) := VRow.new w _ _
  obtain ⟨G, hG⟩ : ∃ G, w.heap.size = G := ⟨_, rfl⟩
  rw [hG] at RB ⊢
  have HG := hide hG
  generalize w.alloc (.cells (znil m.length).toArray 33) = W0 at *
  clear hmk hG
  go_loopw [11] (fun i wq => ∃ t : Nat, i = .int .i64 t ∧ t ≤ m.length ∧ Hid (Up w wq) ∧ Hid (VRow wq G 33 (layV m us t))) (fun i _ => m.length - (intOf i).toNat)
  case atStart => exact ⟨0, rfl, Nat.zero_le _, HUp, RB⟩
  case round =>
    clear HUp RB
    obtain ⟨k, rfl, hk, HU, RB⟩ := hrel
    by_cases hlt : k < m.length
    · obtain ⟨u, hu⟩ := Pl.some_of_lt (show k < us.length by rw [HLn.out]; exact hlt)
      obtain ⟨b, rfl, c0⟩ := HUs.out k u hu
      obtain ⟨ua, un, uc, rfl⟩ := HSl.out k u hu
      have HX := hide (layV_succ m us k)
      rw [usAt_some hu] at HX
      have e0 := HU.out.cell c0
      have hcl := Vd.cnt_small (m := m) hlt
      have HKc := hide (countAhead_any _ m k wr (HV.out.up HU.out) hlt hm HL.out HR.out)
      generalize Vd.cntA m k m.length = C at *
      have i1 : (0 : Int) ≤ (k : Int) := by omega
      have i2 : (k : Int) < (m.length : Int) := by omega
      have i3 : (0 : Int) ≤ (C : Int) := by omega
      have i4 : (C : Int) < (m.length : Int) := by omega
      clear hu c0
      go_wp2_with fail
      refine HKc.out.mono ?_
      rintro e w2 ⟨rfl, hu2⟩
      have HU2 := hide (HU.out.trans hu2)
      have RB2 := hide (RB.out.up hu2)
      obtain ⟨z, hz⟩ := Pl.some_of_lt (show C < (layV m us k).length by rw [layV_len]; exact hcl)
      have z0 := RB2.out.cell hz
      have zf := fun i => RB2.out.frozen i
      have hlow : Hid (w.heap.size ≤ G) := Nat.le_of_eq HG.out
      try dsimp only at z0 zf
      clear hu2 e0 HKc hz RB
      go_wp2
      go_roundw
      case rel => exact ⟨k + 1, by go_num, by omega, HU2.out.setCell hlow.out _, by rw [HX.out]; exact RB2.out.set C _⟩
      case measure => simp [intOf]; omega
    · have hk2 : k = m.length := by omega
      have HRr : Hid (VRow wr G 33 (layV m us m.length)) := by have := RB.out; rw [hk2] at this; exact this
      have i2 : ¬ (k : Int) < (m.length : Int) := by omega
      clear hk2
      go_wp2
      go_ret
      exact ⟨G, rfl, Nat.le_of_eq HG.out, HRr.out, HU.out⟩
end Go.Proofs.YtcclepohmhdpbaaGreatDoor

/- LISTS THAT ARE KEPT. -/
namespace Go.Proofs.YtcclepohmhdpbaaGreatDoor
set_option linter.all false
open Go.RowKit Go.Deep

theorem el_pt : Elem Tryz.prog 30 32 (.agg #[.int .i64 0, .int .i64 0]) 2 16 := ⟨und_pts, info_pt, rfl, by omega, by omega⟩

/-! ### Lists that are kept -/
theorem bl1 {x : L1} {b : Nat} (h : b ∈ x.bl) : x.v.ownBlock = some b := by simpa [L1.bl] using h
theorem L1.ok.row_ne {w : World} {x : L1} (h : x.ok w) {b : Nat} {t : TypeId} {vs : List Value} (hb : VRow w b t vs) (h3 : t ≠ 32) : b ∉ x.bl := fun e => own_row_ne h hb (Ne.symm h3) (bl1 e)
theorem L2.ok.row_ne {w : World} {x : L2} (h : x.ok w) {b : Nat} {t : TypeId} {vs : List Value} (hb : VRow w b t vs) (h2 : t ≠ 30) (h3 : t ≠ 32) : b ∉ x.bl := fun e => by
  simp only [L2.bl, List.mem_append, List.mem_flatMap] at e
  rcases e with e | ⟨y, hy, e⟩
  · exact own_row_ne h.row hb (Ne.symm h2) (by simpa using e)
  · exact (h.sub y hy).row_ne hb h3 e
theorem L3.ok.row_ne {w : World} {x : L3} (h : x.ok w) {b : Nat} {t : TypeId} {vs : List Value} (hb : VRow w b t vs) (h1 : t ≠ 33) (h2 : t ≠ 30) (h3 : t ≠ 32) : b ∉ x.bl := fun e => by
  simp only [L3.bl, List.mem_append, List.mem_flatMap] at e
  rcases e with e | ⟨y, hy, e⟩
  · exact own_row_ne h.row hb (Ne.symm h1) (by simpa using e)
  · exact (h.sub y hy).row_ne hb h2 h3 e
theorem L1.ok.fr {S : Nat → Prop} {w w' : World} {x : L1} (h : x.ok w) (k : Fr S w w') (hs : ∀ b ∈ x.bl, ¬ S b) : x.ok w' := h.of fun b hb => k.block b (h.lt b hb) (hs b hb)
theorem L2.ok.fr {S : Nat → Prop} {w w' : World} {x : L2} (h : x.ok w) (k : Fr S w w') (hs : ∀ b ∈ x.bl, ¬ S b) : x.ok w' := h.of fun b hb => k.block b (h.lt b hb) (hs b hb)
theorem L3.ok.fr {S : Nat → Prop} {w w' : World} {x : L3} (h : x.ok w) (k : Fr S w w') (hs : ∀ b ∈ x.bl, ¬ S b) : x.ok w' := h.of fun b hb => k.block b (h.lt b hb) (hs b hb)
theorem L1.ok.up {w w' : World} {x : L1} (h : x.ok w) (k : Up w w') : x.ok w' := h.of fun b hb => k.block b (h.lt b hb)
theorem L2.ok.up {w w' : World} {x : L2} (h : x.ok w) (k : Up w w') : x.ok w' := h.of fun b hb => k.block b (h.lt b hb)
theorem L3.ok.up {w w' : World} {x : L3} (h : x.ok w) (k : Up w w') : x.ok w' := h.of fun b hb => k.block b (h.lt b hb)
theorem own_ne {w : World} {base base' : Nat} {e e' : TypeId} {size size' : Nat} {v v' : Value} {n n' : Nat} {xs xs' : List Value} (h : w.ownsRow base e size v n xs) (h' : w.ownsRow base' e' size' v' n' xs') (he : e ≠ e') {b : Nat} (hb : v.ownBlock = some b) : ¬ v'.ownBlock = some b := fun hb' => by
  rcases own_apart h h' he with k | k
  · rw [hb] at k; cases k
  · exact k (hb.trans hb'.symm)
theorem L1.ok.grown {w w' : World} {y : L1} {base n : Nat} {v : Value} {xs : List Value} (h : y.ok w) {e : TypeId} (ho : w.ownsRow base e 1 v n xs) (he : 32 ≠ e) (hg : w.grownBy w' v.ownBlock) : y.ok w' :=
  h.fr (Fr.of_grown hg) fun b hb => own_ne h ho he (bl1 hb)
theorem L2.ok.grown {w w' : World} {y : L2} {base n : Nat} {v : Value} {xs : List Value} (h : y.ok w) {e : TypeId} (ho : w.ownsRow base e 1 v n xs) (he : 32 ≠ e) (he2 : 30 ≠ e) (hg : w.grownBy w' v.ownBlock) : y.ok w' :=
  h.fr (Fr.of_grown hg) fun b hb e => by
    simp only [L2.bl, List.mem_append, List.mem_flatMap] at hb
    rcases hb with hb | ⟨z, hz, hb⟩
    · exact own_ne h.row ho he2 (by simpa using hb) e
    · exact own_ne (h.sub z hz) ho he (bl1 hb) e

def nil3 : L3 := ⟨.slice none 0 0, []⟩
theorem nil3_ok (w : World) : nil3.ok w := ⟨World.ownsRow_nil _ _ _ _, by simp [nil3]⟩

end Go.Proofs.YtcclepohmhdpbaaGreatDoor

/- THE WALKS: package canon: polygonForm. -/
namespace Go.Proofs.YtcclepohmhdpbaaGreatDoor
set_option linter.all false
open Go.RowKit Go.Deep

/-- A ring that was laid: its block, its points. -/
structure RG where
  g : Nat
  r : Ring
def RG.v (q : RG) : Value := .slice (some ⟨q.g, 0, none⟩) q.r.length q.r.length
def RG.ok (base : Nat) (w : World) (q : RG) : Prop := base ≤ q.g ∧ PRow w q.g q.r
theorem RG.ok.up {base : Nat} {w w' : World} {q : RG} (h : q.ok base w) (k : Up w w') : q.ok base w' := ⟨h.1, VRow.up h.2 k⟩
theorem RG.ok.grown {base base' n : Nat} {w w' : World} {q : RG} {v : Value} {xs : List Value} {e : TypeId} (h : q.ok base w) (ho : w.ownsRow base' e 1 v n xs) (he : e ≠ 32) (hg : w.grownBy w' v.ownBlock) : q.ok base w' := ⟨h.1, VRow.grown h.2 hg (own_row_ne ho h.2 he)⟩
/-- The rings of a polygon that is being laid. -/
structure QF (base : Nat) (w : World) (v : Value) (Q : List RG) : Prop where
  own : w.ownsRow base 30 1 v Q.length (Q.map RG.v)
  ok : ∀ q ∈ Q, q.ok base w
theorem QF.up {base : Nat} {w w' : World} {v : Value} {Q : List RG} (h : QF base w v Q) (k : Up w w') : QF base w' v Q := ⟨own_up h.own k, fun q hq => (h.ok q hq).up k⟩
/-- A hole by itself: the list that holds it, its block, its points. -/
structure HB where
  p : Nat
  q : RG
def HB.v (h : HB) : Value := .slice (some ⟨h.p, 0, none⟩) 1 1
def HB.ok (base : Nat) (w : World) (h : HB) : Prop := base ≤ h.p ∧ VRow w h.p 30 [h.q.v] ∧ h.q.ok base w
theorem HB.ok.up {base : Nat} {w w' : World} {q : HB} (h : q.ok base w) (k : Up w w') : q.ok base w' := ⟨h.1, h.2.1.up k, h.2.2.up k⟩
structure QH (base : Nat) (w : World) (fv v : Value) (H : List HB) : Prop where
  own : w.ownsRow base 33 1 v H.length (H.map HB.v)
  ok : ∀ h ∈ H, h.ok base w
  ne : ∀ h ∈ H, fv.ownBlock ≠ some h.p
theorem QH.up {base : Nat} {w w' : World} {fv v : Value} {H : List HB} (h : QH base w fv v H) (k : Up w w') : QH base w' fv v H := ⟨own_up h.own k, fun q hq => (h.ok q hq).up k, h.ne⟩
theorem own_grown {base base' n n' s s' : Nat} {w w' : World} {v v' : Value} {xs xs' : List Value} {e e' : TypeId} (h : w.ownsRow base e s v n xs) (ho : w.ownsRow base' e' s' v' n' xs') (he : e ≠ e') (hg : w.grownBy w' v'.ownBlock) : w'.ownsRow base e s v n xs :=
  own_of_block h fun g hb => hg.block g (own_lt h hb).2 (fun e2 => own_ne h ho he hb e2.symm)
/-- One ring more in the polygon. -/
theorem QF.push {base : Nat} {w w' : World} {v : Value} {Q : List RG} {q : RG} {g cap : Nat} (h : QF base w v Q) (hq : q.ok base w) (hg : w.grownBy w' v.ownBlock) (hown : w'.ownsRow base 30 1 (.slice (some ⟨g, 0, none⟩) (Q.length + 1) cap) (Q.length + 1) (Q.map RG.v ++ [q.v])) : QF base w' (.slice (some ⟨g, 0, none⟩) (Q.length + 1) cap) (Q ++ [q]) := by
  refine ⟨by rw [List.map_append, List.length_append]; exact hown, fun x hx => ?_⟩
  rcases List.mem_append.1 hx with hx | hx
  · exact (h.ok x hx).grown h.own (by decide) hg
  · rw [List.mem_singleton.1 hx]; exact hq.grown h.own (by decide) hg
theorem QF.byH {base : Nat} {w w' : World} {fv v : Value} {Q : List RG} {H : List HB} (h : QF base w fv Q) (k : QH base w fv v H) (hg : w.grownBy w' v.ownBlock) : QF base w' fv Q :=
  ⟨own_grown h.own k.own (by decide) hg, fun x hx => (h.ok x hx).grown k.own (by decide) hg⟩
theorem HB.ok.byF {base : Nat} {w w' : World} {fv : Value} {Q : List RG} {h : HB} (k : h.ok base w) (hf : QF base w fv Q) (hne : fv.ownBlock ≠ some h.p) (hg : w.grownBy w' fv.ownBlock) : h.ok base w' := ⟨k.1, k.2.1.grown hg hne, k.2.2.grown hf.own (by decide) hg⟩
theorem QH.byF {base : Nat} {w w' : World} {fv v : Value} {Q : List RG} {H : List HB} {g cap n : Nat} (k : QH base w fv v H) (h : QF base w fv Q) (hg : w.grownBy w' fv.ownBlock) (hat : fv.ownBlock = some g ∨ g = w.heap.size) : QH base w' (.slice (some ⟨g, 0, none⟩) n cap) v H := by
  refine ⟨own_grown k.own h.own (by decide) hg, fun x hx => (k.ok x hx).byF h (k.ne x hx) hg, fun x hx e => ?_⟩
  have hlt : x.p < w.heap.size := VRow.lt (k.ok x hx).2.1
  have e' : g = x.p := Option.some.inj e
  rcases hat with e2 | e2
  · exact k.ne x hx (e' ▸ e2)
  · omega
theorem QH.push {base : Nat} {w w' : World} {fv v : Value} {H : List HB} {x : HB} {g cap : Nat} (h : QH base w fv v H) (hx : x.ok base w) (hne : fv.ownBlock ≠ some x.p) (hg : w.grownBy w' v.ownBlock) (hown : w'.ownsRow base 33 1 (.slice (some ⟨g, 0, none⟩) (H.length + 1) cap) (H.length + 1) (H.map HB.v ++ [x.v])) : QH base w' fv (.slice (some ⟨g, 0, none⟩) (H.length + 1) cap) (H ++ [x]) := by
  refine ⟨by rw [List.map_append, List.length_append]; exact hown, fun y hy => ?_, fun y hy => ?_⟩
  · have one : ∀ y : HB, y.ok base w → y.ok base w' := fun y k => ⟨k.1, k.2.1.grown hg (own_row_ne h.own k.2.1 (by decide)), k.2.2.grown h.own (by decide) hg⟩
    rcases List.mem_append.1 hy with hy | hy
    · exact one y (h.ok y hy)
    · rw [List.mem_singleton.1 hy]; exact one x hx
  · rcases List.mem_append.1 hy with hy | hy
    · exact h.ne y hy
    · rw [List.mem_singleton.1 hy]; exact hne
theorem QF.nil (base : Nat) (w : World) : QF base w (.slice none 0 0) [] := ⟨World.ownsRow_nil _ _ _ _, fun q hq => by simp at hq⟩
theorem QH.nil (base : Nat) (w : World) : QH base w (.slice none 0 0) (.slice none 0 0) [] := ⟨World.ownsRow_nil _ _ _ _, fun q hq => by simp at hq, fun q hq => by simp at hq⟩
/-- The holes as they are read. -/
def HB.m (H : List HB) : Mult := H.map fun h => [h.q.r]
theorem RG.ok.rd {base : Nat} {w : World} {q : RG} (h : q.ok base w) : Rd1 w q.v q.r :=
  ⟨some ⟨q.g, 0, none⟩, _, rfl, fun i p hp => ⟨q.g, rfl, (PRow.cells h.2 hp).1, (PRow.cells h.2 hp).2⟩⟩
theorem QH.rd {base : Nat} {w : World} {fv v : Value} {H : List HB} (h : QH base w fv v H) : Rd3 w v (HB.m H) ∧ Vls w v (H.map HB.v) := by
  obtain ⟨ao, cap, e⟩ := own_len h.own
  have key : ∀ i x, H[i]? = some x → ∃ g, ao = some ⟨g, 0, none⟩ ∧ w.cell? ⟨g, i, none⟩ = some x.v := fun i x hx => by
    obtain ⟨g, cap', e', hc⟩ := own_cell h.own (by have := Pl.lt_of_some hx; omega)
    rw [e] at e'
    cases e'
    exact ⟨g, rfl, hc i _ (by rw [List.getElem?_map, hx]; rfl)⟩
  constructor
  · refine ⟨ao, cap, by rw [e]; simp [HB.m], fun i l hl => ?_⟩
    unfold HB.m at hl
    rw [List.getElem?_map, Option.map_eq_some_iff] at hl
    obtain ⟨x, hx, rfl⟩ := hl
    obtain ⟨g, eg, c⟩ := key i x hx
    refine ⟨g, x.v, eg, c, some ⟨x.p, 0, none⟩, 1, rfl, fun j r hr => ?_⟩
    cases j with
    | zero =>
      simp at hr; subst hr
      exact ⟨x.p, x.q.v, rfl, (h.ok x (Pl.mem_of_some hx)).2.1.cell (i := 0) rfl, (h.ok x (Pl.mem_of_some hx)).2.2.rd⟩
    | succ j => simp at hr
  · refine ⟨ao, cap, by rw [e]; simp, fun i u hu => ?_⟩
    rw [List.getElem?_map, Option.map_eq_some_iff] at hu
    obtain ⟨x, hx, rfl⟩ := hu
    obtain ⟨g, eg, c⟩ := key i x hx
    exact ⟨g, eg, c⟩
/-- The holes in their order. -/
def ordH (H : List HB) : List HB := Vd.layN (fun i => Vd.cntA (HB.m H) i H.length) (fun i => H.getD i ⟨0, ⟨0, []⟩⟩) (List.replicate H.length ⟨0, ⟨0, []⟩⟩) H.length
theorem ordH_len (H : List HB) : (ordH H).length = H.length := by unfold ordH; rw [Vd.layN_len]; simp
theorem HB.m_len (H : List HB) : (HB.m H).length = H.length := by simp [HB.m]
theorem ordH_at {H : List HB} {j : Nat} (hj : j < H.length) : ∃ (i : Nat) (x : HB), H[i]? = some x ∧ Vd.cntA (HB.m H) i H.length = j ∧ (ordH H)[j]? = some x := by
  obtain ⟨i, hi, e⟩ := Vd.cnt_surj (m := HB.m H) hj
  obtain ⟨x, hx⟩ := Pl.some_of_lt hi
  refine ⟨i, x, hx, e, ?_⟩
  rw [← e]
  unfold ordH
  rw [Vd.layN_at (f := fun i => Vd.cntA (HB.m H) i H.length) (N := H.length) (fun i h => by simpa using Vd.cnt_small h) (fun i k h1 h2 => Vd.cnt_inj h1 h2) H.length (Nat.le_refl _) i hi, List.getD_eq_getElem?_getD, hx]; rfl
theorem ordH_mem {H : List HB} {x : HB} (h : x ∈ ordH H) : x ∈ H := by
  obtain ⟨j, hj⟩ := List.getElem?_of_mem h
  have := Pl.lt_of_some hj
  rw [ordH_len] at this
  obtain ⟨i, y, hy, -, e⟩ := ordH_at this
  rw [hj] at e
  cases e
  exact Pl.mem_of_some hy
theorem ordH_vals (H : List HB) : layV (HB.m H) (H.map HB.v) (HB.m H).length = (ordH H).map HB.v := by
  refine List.ext_getElem? fun j => ?_
  rcases Nat.lt_or_ge j H.length with hj | hj
  · obtain ⟨i, x, hx, e, ho⟩ := ordH_at hj
    rw [List.getElem?_map, ho]
    have := layV_at (m := HB.m H) (us := H.map HB.v) (i := i) (by rw [HB.m_len]; exact Pl.lt_of_some hx)
    rw [HB.m_len, e] at this
    rw [HB.m_len, this, usAt_some (u := x.v) (by rw [List.getElem?_map, hx]; rfl)]; rfl
  · rw [List.getElem?_eq_none (by rw [layV_len, HB.m_len]; exact hj), List.getElem?_eq_none (by rw [List.length_map, ordH_len]; exact hj)]
theorem ordH_rings (H : List HB) : Vd.inOrder (HB.m H) = (ordH H).map fun h => [h.q.r] := by
  refine List.ext_getElem? fun j => ?_
  rcases Nat.lt_or_ge j H.length with hj | hj
  · obtain ⟨i, x, hx, e, ho⟩ := ordH_at hj
    rw [List.getElem?_map, ho]
    have := Vd.inOrder_at (HB.m H) (i := i) (by rw [HB.m_len]; exact Pl.lt_of_some hx)
    rw [HB.m_len, e] at this
    rw [this]
    have h2 : (HB.m H)[i]? = some [x.q.r] := by unfold HB.m; rw [List.getElem?_map, hx]; rfl
    rw [pAt_some h2]; rfl
  · rw [List.getElem?_eq_none (by rw [Vd.inOrder_len, HB.m_len]; exact hj), List.getElem?_eq_none (by rw [List.length_map, ordH_len]; exact hj)]
theorem flat_one1 (L : List HB) : (L.map fun h => [h.q.r]).flatten = L.map fun h => h.q.r := by
  induction L with
  | nil => rfl
  | cons a t ih => simp [ih]

/-- What is asked of a ring that has a form. -/
structure RZ (r : Ring) : Prop where
  len : r.length ≤ 1048575
  cd : Vd.CdR r
  cn : (Vd.corners r).length ≠ 0
theorem form_len {r : Ring} {l : Bool} (h : RZ r) : (Vd.ringForm r l).length ≤ 1048576 := by
  rw [Vd.rForm_len h.cn]
  have : (Vd.corners r).length ≤ r.length := Vd.cornersI_len r r.length
  have := h.len
  omega
set_option maxRecDepth 8000 in
set_option maxHeartbeats 8000000 in
theorem polygonForm_any (v : Value) (l : Poly) (w : World) (hv : Rd2 w v l) (hl : l.length ≤ 1048576) (hz : ∀ r ∈ l, RZ r) :
    Calls Tryz.prog 131 #[v] w fun e w' => ∃ (fv : Value) (Q : List RG), e = .returned fv ∧ QF w.heap.size w' fv Q ∧ Q.map RG.r = Vd.polyForm l ∧ Up w w' := by
  obtain ⟨ao, cap, rfl, hm⟩ := hv
  have HM := hide hm
  have HZ := hide hz
  clear hm hz
  go_enter Tryz.func131, Tryz.ntmps131
  go_wp2
  go_loopw [3, 4, 11] (fun fv hv i wr => ∃ (k : Nat) (u x : Value) (Q : List RG) (H : List HB), i = .int .i64 k ∧ u = fv ∧ x = hv ∧ k ≤ l.length ∧ Hid (Up w wr) ∧ Hid (QF w.heap.size wr u Q) ∧ Hid (QH w.heap.size wr u x H) ∧ Hid (Q.map RG.r = ((l.take k).take 1).map (Vd.ringForm · true)) ∧ Hid ((H.map fun h => h.q.r) = ((l.take k).drop 1).map (Vd.ringForm · false))) (fun _ _ i _ => l.length - (intOf i).toNat)
  case atStart => exact ⟨0, _, _, [], [], rfl, rfl, rfl, Nat.zero_le _, Up.refl _, QF.nil _ _, QH.nil _ _, rfl, rfl⟩
  case round =>
    obtain ⟨k, u, x, Q, H, rfl, rfl, rfl, hk, HU, HQ, HH, HE1, HE2⟩ := hrel
    by_cases hlt : k < l.length
    · obtain ⟨r, hr⟩ := Pl.some_of_lt hlt
      obtain ⟨b, y, rfl, cy, hy⟩ := HM.out k r hr
      have e0 := HU.out.cell cy
      have Hy := hide (hy.up HU.out)
      have HZr := hide (HZ.out r (Pl.mem_of_some hr))
      have HTk := hide (Pl.take_one hr)
      have i1 : (0 : Int) ≤ (k : Int) := by omega
      have i2 : (k : Int) < (l.length : Int) := by omega
      have hsz : Hid (w.heap.size ≤ wr.heap.size) := HU.out.size
      have hQl : Hid (Q.length ≤ 1073741824) := by
        have := congrArg List.length HE1.out
        simp only [List.length_map, List.length_take] at this
        show _ ≤ _; omega
      have hHl : Hid (H.length ≤ 1073741824) := by
        have := congrArg List.length HE2.out
        simp only [List.length_map, List.length_take, List.length_drop] at this
        show _ ≤ _; omega
      clear hr cy hy
      by_cases hk0 : k = 0
      · subst hk0
        have HE1n : Hid (∀ q : RG, q.r = Vd.ringForm r true → (Q ++ [q]).map RG.r = ((l.take (0 + 1)).take 1).map (Vd.ringForm · true)) := fun q hq => by
          rw [List.map_append, HE1.out, HTk.out]; simp [hq]
        have HE2n : Hid ((H.map fun h => h.q.r) = ((l.take (0 + 1)).drop 1).map (Vd.ringForm · false)) := by
          rw [HE2.out, HTk.out]; simp [Hid]
        go_wp2_with fail
        refine (ringForm_any _ r true _ Hy.out HZr.out.len HZr.out.cd HZr.out.cn).mono ?_
        rintro e w2 ⟨g, rfl, hg, hP, hu2⟩
        have HU2 := hide hu2
        have Hq : Hid (RG.ok w.heap.size w2 ⟨g, Vd.ringForm r true⟩) := ⟨Nat.le_trans hsz.out hg, hP⟩
        generalize hF : Vd.ringForm r true = F at *
        clear hu2 hP e0 hF
        have HUa : Hid (Up wr (w2.alloc (.cells #[.slice (some ⟨g, 0, none⟩) F.length F.length] 30))) := HU2.out.alloc _
        have Hqa : Hid (RG.ok w.heap.size (w2.alloc (.cells #[.slice (some ⟨g, 0, none⟩) F.length F.length] 30)) ⟨g, F⟩) := Hq.out.up ((Up.refl _).alloc _)
        have HQa := hide (HQ.out.up HUa.out)
        have HHa := hide (HH.out.up HUa.out)
        have hsz2 : Hid (w.heap.size ≤ w2.heap.size) := Nat.le_trans hsz.out HU2.out.size
        have hHeap : Hid ((w2.alloc (.cells #[.slice (some ⟨g, 0, none⟩) F.length F.length] 30)).heap[w2.heap.size]? = some (.cells [Value.slice (some ⟨g, 0, none⟩) F.length F.length].toArray 30 (0, 0))) := VRow.new w2 [.slice (some ⟨g, 0, none⟩) F.length F.length] 30
        have hBs : Hid (w.heap.size ≤ (w2.alloc (.cells #[.slice (some ⟨g, 0, none⟩) F.length F.length] 30)).heap.size) := by
          have := hsz2.out; simp [Hid]; omega
        obtain ⟨xa, xc, rfl⟩ := own_len HH.out.own
        obtain ⟨ua, uc, rfl⟩ := own_len HQ.out.own
        go_wp2_with (at_builtin; refine wpList_app el_rings rfl (.tmp 18) (.tmp 21) rfl w.heap.size _ _ _ (by rfl) HQa.out.own w2.heap.size [.slice (some ⟨g, 0, none⟩) F.length F.length] (by rfl) rfl hHeap.out (by intro z hz; simp at hz; subst hz; rfl) hQl.out hBs.out ?_; intro g5 cap5 w5 hown5 hg5 hat5 hlt5; have HQ5 := hide (HQa.out.push Hqa.out hg5 hown5); have HH5 := hide (HHa.out.byF (n := Q.length + 1) (cap := cap5) HQa.out hg5 hat5); have HU5 : Hid (Up w w5) := Fr.up (S := fun _ => False) ((Fr.of_up (HU.out.trans HUa.out)).grown hg5 fun z hz => .inr (own_lt HQ.out.own hz).1) (fun _ _ h => h); clear hown5 hg5 hat5 hlt5)
        go_roundw
        case rel => exact ⟨0 + 1, _, _, _, H, by go_num, rfl, rfl, by omega, HU5, HQ5, HH5, HE1n.out _ rfl, HE2n⟩
        case measure => simp [intOf]; omega
      · have hk0' : ((k : Int) == 0) = false := beq_eq_false_iff_ne.2 (by omega)
        have HE1n : Hid (Q.map RG.r = ((l.take (k + 1)).take 1).map (Vd.ringForm · true)) := by
          rw [HE1.out, HTk.out]; show _ = _; rw [List.take_append_of_le_length (by rw [List.length_take]; omega)]
        have HE2n : Hid (∀ q : HB, q.q.r = Vd.ringForm r false → ((H ++ [q]).map fun h => h.q.r) = ((l.take (k + 1)).drop 1).map (Vd.ringForm · false)) := fun q hq => by
          rw [List.map_append, HE2.out, HTk.out, List.drop_append_of_le_length (by rw [List.length_take]; omega), List.map_append]; simp [hq]
        clear hk0
        go_wp2_with fail
        refine (ringForm_any _ r false _ Hy.out HZr.out.len HZr.out.cd HZr.out.cn).mono ?_
        rintro e w2 ⟨g, rfl, hg, hP, hu2⟩
        have HU2 := hide hu2
        have Hq : Hid (RG.ok w.heap.size w2 ⟨g, Vd.ringForm r false⟩) := ⟨Nat.le_trans hsz.out hg, hP⟩
        have hfl := hide (form_len (l := false) HZr.out)
        generalize hF : Vd.ringForm r false = F at *
        clear hu2 hP e0 hF
        have HUa : Hid (Up wr ((w2.alloc (.cells #[.slice (some ⟨g, 0, none⟩) F.length F.length] 30)).alloc (.cells #[.slice (some ⟨w2.heap.size, 0, none⟩) 1 1] 33))) := (HU2.out.alloc _).alloc _
        have HXo : Hid (HB.ok w.heap.size ((w2.alloc (.cells #[.slice (some ⟨g, 0, none⟩) F.length F.length] 30)).alloc (.cells #[.slice (some ⟨w2.heap.size, 0, none⟩) 1 1] 33)) ⟨w2.heap.size, ⟨g, F⟩⟩) :=
          ⟨Nat.le_trans hsz.out HU2.out.size, (VRow.new w2 _ _).up ((Up.refl _).alloc _), Hq.out.up (((Up.refl _).alloc _).alloc _)⟩
        have HQa := hide (HQ.out.up HUa.out)
        have HHa := hide (HH.out.up HUa.out)
        have hne : Hid (u.ownBlock ≠ some w2.heap.size) := fun e => by have := (own_lt HQ.out.own e).2; have := HU2.out.size; omega
        have hsz2 : Hid (w.heap.size ≤ w2.heap.size) := Nat.le_trans hsz.out HU2.out.size
        have hHeap : Hid (((w2.alloc (.cells #[.slice (some ⟨g, 0, none⟩) F.length F.length] 30)).alloc (.cells #[.slice (some ⟨w2.heap.size, 0, none⟩) 1 1] 33)).heap[w2.heap.size + 1]? = some (.cells [Value.slice (some ⟨w2.heap.size, 0, none⟩) 1 1].toArray 33 (0, 0))) := by
          have := VRow.new (w2.alloc (.cells #[.slice (some ⟨g, 0, none⟩) F.length F.length] 30)) [.slice (some ⟨w2.heap.size, 0, none⟩) 1 1] 33
          unfold VRow at this
          rw [show (w2.alloc (.cells #[.slice (some ⟨g, 0, none⟩) F.length F.length] 30)).heap.size = w2.heap.size + 1 by simp] at this
          exact this
        have hBs : Hid (w.heap.size ≤ ((w2.alloc (.cells #[.slice (some ⟨g, 0, none⟩) F.length F.length] 30)).alloc (.cells #[.slice (some ⟨w2.heap.size, 0, none⟩) 1 1] 33)).heap.size) := by
          have := hsz2.out; simp [Hid]; omega
        obtain ⟨xa, xc, rfl⟩ := own_len HH.out.own
        obtain ⟨ua, uc, rfl⟩ := own_len HQ.out.own
        go_wp2_with (at_builtin; refine wpList_app el_polys rfl (.tmp 23) (.tmp 27) rfl w.heap.size _ _ _ (by rfl) HHa.out.own (w2.heap.size + 1) [.slice (some ⟨w2.heap.size, 0, none⟩) 1 1] (by rfl) rfl hHeap.out (by intro z hz; simp at hz; subst hz; rfl) hHl.out hBs.out ?_; intro g5 cap5 w5 hown5 hg5 hat5 hlt5; have HH5 := hide (HHa.out.push HXo.out hne.out hg5 hown5); have HQ5 := hide (HQa.out.byH HHa.out hg5); have HU5 : Hid (Up w w5) := Fr.up (S := fun _ => False) ((Fr.of_up (HU.out.trans HUa.out)).grown hg5 fun z hz => .inr (own_lt HH.out.own hz).1) (fun _ _ h => h); clear hown5 hg5 hat5 hlt5)
        go_roundw
        case rel => exact ⟨k + 1, _, _, Q, _, by go_num, rfl, rfl, by omega, HU5, HQ5, HH5, HE1n, HE2n.out _ rfl⟩
        case measure => simp [intOf]; omega
    · have i2 : ¬ (k : Int) < (l.length : Int) := by omega
      have hkl : k = l.length := by omega
      have HF1 : Hid (Q.map RG.r = (l.take 1).map (Vd.ringForm · true)) := by have := HE1.out; rw [hkl, List.take_length] at this; exact this
      have HF2 : Hid ((H.map fun h => h.q.r) = (l.drop 1).map (Vd.ringForm · false)) := by have := HE2.out; rw [hkl, List.take_length] at this; exact this
      have hHl : H.length ≤ 1048576 := by
        have := congrArg List.length HF2.out
        simp only [List.length_map, List.length_drop] at this
        omega
      have hQl : Q.length ≤ 1 := by
        have := congrArg List.length HF1.out
        simp only [List.length_map, List.length_take] at this
        omega
      have HRl : Hid (∀ h ∈ H, h.q.r.length ≤ 1048576) := fun h hh => by
        have : h.q.r ∈ (l.drop 1).map (Vd.ringForm · false) := by rw [← HF2.out]; exact List.mem_map.2 ⟨h, hh, rfl⟩
        obtain ⟨r, hr, e⟩ := List.mem_map.1 this
        rw [← e]
        exact form_len (HZ.out r (List.mem_of_mem_drop hr))
      have HPF : Hid (∀ Q' : List RG, Q'.map RG.r = Q.map RG.r ++ ((ordH H).map fun h => h.q.r) → Q'.map RG.r = Vd.polyForm l) := fun Q' hQ' => by
        rw [hQ', HF1.out]
        cases l with
        | nil =>
          have hn : H = [] := by have := congrArg List.length HF2.out; simp at this; exact this
          subst hn
          rfl
        | cons r0 t =>
          have e : Vd.holesF t = HB.m H := by
            unfold Vd.holesF HB.m
            have := HF2.out
            simp only [List.drop_succ_cons, List.drop_zero] at this
            have h2 := congrArg (List.map fun r : Ring => [r]) this
            simp only [List.map_map] at h2
            exact h2.symm
          show [Vd.ringForm r0 true] ++ _ = Vd.ringForm r0 true :: (Vd.inOrder (Vd.holesF t)).flatten
          rw [e, ordH_rings, flat_one1]; rfl
      have HIO := hide (inOrder_any _ (HB.m H) (H.map HB.v) wr HH.out.rd.1 HH.out.rd.2 (by rw [List.length_map, HB.m_len]) (by rw [HB.m_len]; exact hHl) (fun p hp => by unfold HB.m at hp; obtain ⟨h, _, rfl⟩ := List.mem_map.1 hp; simp) (fun p hp r hr => by unfold HB.m at hp; obtain ⟨h, hh, rfl⟩ := List.mem_map.1 hp; rw [List.mem_singleton.1 hr]; exact HRl.out h hh))
      rw [ordH_vals, HB.m_len] at HIO
      clear hkl HE1 HE2
      obtain ⟨xa, xc, rfl⟩ := own_len HH.out.own
      obtain ⟨ua, uc, rfl⟩ := own_len HQ.out.own
      go_wp2_with fail
      refine HIO.out.mono ?_
      rintro e w2 ⟨G, rfl, hG, hRow, hu2⟩
      have HU2 := hide (HU.out.trans hu2)
      have HQ2 := hide (HQ.out.up hu2)
      have HK2 : Hid (∀ h ∈ ordH H, h.ok w.heap.size w2 ∧ (Value.slice ua Q.length uc).ownBlock ≠ some h.p) := fun h hh => ⟨(HH.out.ok h (ordH_mem hh)).up hu2, HH.out.ne h (ordH_mem hh)⟩
      have hOl : (ordH H).length = H.length := ordH_len H
      have HRow := hide hRow
      have HGn : Hid ((Value.slice ua Q.length uc).ownBlock ≠ some G) := fun e => by have := (own_lt HQ.out.own e).2; omega
      generalize ordH H = O at *
      clear hG hRow hu2 HIO HH HF1 HF2 HQ HU HRl
      go_wp2
      go_loopw [3, 33] (fun fv i wq => ∃ (t : Nat) (u : Value) (Q' : List RG), i = .int .i64 t ∧ u = fv ∧ t ≤ H.length ∧ Hid (Up w wq) ∧ Hid (QF w.heap.size wq u Q') ∧ Hid (VRow wq G 33 (O.map HB.v)) ∧ Hid (u.ownBlock ≠ some G) ∧ Hid (∀ h ∈ O, h.ok w.heap.size wq ∧ u.ownBlock ≠ some h.p) ∧ Hid (Q'.map RG.r = Q.map RG.r ++ ((O.take t).map fun h => h.q.r))) (fun _ i _ => H.length - (intOf i).toNat)
      case atStart => exact ⟨0, _, Q, rfl, rfl, Nat.zero_le _, HU2, HQ2, HRow, HGn, HK2, by simp [Hid]⟩
      case round =>
        clear HU2 HQ2 HRow HGn HK2
        obtain ⟨t, u, Q', rfl, rfl, ht, HU, HQ, HRow, HGn, HK, HE⟩ := hrel
        by_cases hlt2 : t < H.length
        · obtain ⟨h, hh⟩ := Pl.some_of_lt (show t < O.length by omega)
          have e0 := HRow.out.cell (i := t) (v := h.v) (by rw [List.getElem?_map, hh]; rfl)
          have Hk := hide (HK.out h (Pl.mem_of_some hh))
          have HEn : Hid ((Q' ++ [h.q]).map RG.r = Q.map RG.r ++ ((O.take (t + 1)).map fun h => h.q.r)) := by rw [Pl.take_one hh, List.map_append, HE.out, List.map_append, List.append_assoc]; exact rfl
          have hQl2 : Hid (Q'.length ≤ 1073741824) := by
            have := congrArg List.length HE.out
            simp only [List.length_map, List.length_append, List.length_take] at this
            show _ ≤ _; omega
          have hBs : Hid (w.heap.size ≤ wr.heap.size) := HU.out.size
          have hHeap : Hid (wr.heap[h.p]? = some (.cells [h.q.v].toArray 30 (0, 0))) := Hk.out.1.2.1
          have j1 : (0 : Int) ≤ (t : Int) := by omega
          have j2 : (t : Int) < (H.length : Int) := by omega
          rw [HB.v] at e0
          obtain ⟨ua', uc', rfl⟩ := own_len HQ.out.own
          clear hh
          go_wp2_with (at_builtin; refine wpList_app el_rings rfl (.tmp 37) (.tmp 38) rfl w.heap.size _ _ _ (by rfl) HQ.out.own h.p [h.q.v] (by rfl) rfl hHeap.out (by intro z hz; simp at hz; subst hz; rfl) hQl2.out hBs.out ?_; intro g5 cap5 w5 hown5 hg5 hat5 hlt5; have HQ5 := hide (HQ.out.push Hk.out.1.2.2 hg5 hown5); have HU5 : Hid (Up w w5) := Fr.up (S := fun _ => False) ((Fr.of_up HU.out).grown hg5 fun z hz => .inr (own_lt HQ.out.own hz).1) (fun _ _ h => h); have HR5 := hide (HRow.out.grown hg5 HGn.out); have HG5 : Hid ((Value.slice (some ⟨g5, 0, none⟩) (Q'.length + 1) cap5).ownBlock ≠ some G) := (fun e => by have hlt := HRow.out.lt; have e' : g5 = G := Option.some.inj e; rcases hat5 with e2 | e2; exact HGn.out (e' ▸ e2); omega); have HK5 : Hid (∀ h ∈ O, h.ok w.heap.size w5 ∧ (Value.slice (some ⟨g5, 0, none⟩) (Q'.length + 1) cap5).ownBlock ≠ some h.p) := (fun x hx => ⟨(HK.out x hx).1.byF HQ.out (HK.out x hx).2 hg5, fun e => by have hlt : x.p < wr.heap.size := (HK.out x hx).1.2.1.lt; have e' : g5 = x.p := Option.some.inj e; rcases hat5 with e2 | e2; exact (HK.out x hx).2 (e' ▸ e2); omega⟩); clear hown5 hg5 hat5 hlt5)
          go_roundw
          case rel => exact ⟨t + 1, _, _, by go_num, rfl, by omega, HU5, HQ5, HR5, HG5, HK5, HEn⟩
          case measure => simp [intOf]; omega
        · have j2 : ¬ (t : Int) < (H.length : Int) := by omega
          have HR := hide (HPF.out Q' (by rw [HE.out, List.take_of_length_le (by omega)]))
          go_wp2
          go_ret
          exact ⟨_, rfl, Q', HQ.out, HR.out, HU.out⟩
end Go.Proofs.YtcclepohmhdpbaaGreatDoor

/- THE DOCUMENT's WALKS: Canon: what lies on the heap, and the putting in place, plainly. -/
namespace Go.Proofs.YtcclepohmhdpbaaGreatDoor
set_option linter.all false
open Go.RowKit Go.Deep

/-! ### putting in place: the first stays -/
def insH {α : Type} (c : α → α → Int) (l : List α) (x : α) : List α := match l with
  | [] => [x]
  | s :: H => s :: Vd.insB c H x
theorem insH_one {α : Type} (c : α → α → Int) {A : List α} (x : α) (h : A.length ≤ 1) : insH c A x = A ++ [x] := by
  match A, h with
  | [], _ => rfl
  | [s], _ => rfl
theorem insH_snoc {α : Type} (c : α → α → Int) {A : List α} (x y : α) (h : 1 ≤ A.length) : insH c (A ++ [y]) x = if c x y < 0 then insH c A x ++ [y] else A ++ [y] ++ [x] := by
  match A, h with
  | s :: H, _ =>
    show s :: Vd.insB c (H ++ [y]) x = _
    rw [Vd.insB_snoc]
    split <;> rfl
theorem insB_map {α β : Type} (f : α → β) (c : β → β → Int) (x : α) : ∀ l : List α, (Vd.insB (fun a b => c (f a) (f b)) l x).map f = Vd.insB c (l.map f) (f x) := by
  intro l
  induction l using Vd.snoc_ind with
  | h0 => rfl
  | h1 l y ih =>
    rw [Vd.insB_snoc, List.map_append, show [y].map f = [f y] from rfl, Vd.insB_snoc]
    split
    · rw [List.map_append, ih]; rfl
    · rw [List.map_append, List.map_append]; rfl
theorem insH_map {α β : Type} (f : α → β) (c : β → β → Int) (x : α) (l : List α) : (insH (fun a b => c (f a) (f b)) l x).map f = insH c (l.map f) (f x) := by
  cases l with
  | nil => rfl
  | cons s H => show f s :: _ = _; rw [insB_map]; rfl
theorem polyD_snoc (l : Poly) (r : Ring) : Vd.polyD (l ++ [r]) = insH Vd.cmpR (Vd.polyD l) (Vd.ringD r (decide (l.length = 0))) := by
  cases l with
  | nil => rfl
  | cons s t =>
    show Vd.polyD (s :: (t ++ [r])) = _
    rw [Vd.polyD, Vd.polyD, List.map_append]
    show _ :: Vd.sortD Vd.cmpR (_ ++ [Vd.ringD r false]) = _
    rw [Vd.sortD_snoc]; rfl
theorem insH_len {α : Type} (c : α → α → Int) (l : List α) (x : α) : (insH c l x).length = l.length + 1 := by
  cases l with
  | nil => rfl
  | cons s H => show (_ :: _).length = _; rw [List.length_cons, (Vd.insB_perm c x H).length_eq, List.length_append]; rfl
theorem insH_mem {α : Type} (c : α → α → Int) (l : List α) (x y : α) (h : y ∈ insH c l x) : y ∈ l ∨ y = x := by
  cases l with
  | nil => exact .inr (List.mem_singleton.1 h)
  | cons s H =>
    rcases List.mem_cons.1 h with h | h
    · exact .inl (by rw [h]; simp)
    · rcases List.mem_append.1 ((Vd.insB_perm c x H).mem_iff.1 h) with h | h
      · exact .inl (by simp [h])
      · exact .inr (List.mem_singleton.1 h)
theorem insB_len {α : Type} (c : α → α → Int) (l : List α) (x : α) : (Vd.insB c l x).length = l.length + 1 := by rw [(Vd.insB_perm c x l).length_eq, List.length_append]; rfl
theorem insB_mem {α : Type} (c : α → α → Int) (l : List α) (x y : α) (h : y ∈ Vd.insB c l x) : y ∈ l ∨ y = x := by
  rcases List.mem_append.1 ((Vd.insB_perm c x l).mem_iff.1 h) with h | h
  · exact .inl h
  · exact .inr (List.mem_singleton.1 h)
theorem cornersU_len (r : Ring) : (Vd.cornersU r).length ≤ r.length - 1 := by rw [cuK_all]; exact cuK_len _ _
theorem cornersD_len (r : Ring) (b : Bool) : (Vd.cornersD r b).length = (Vd.cornersU r).length := by
  unfold Vd.cornersD; split
  · rfl
  · rw [List.length_reverse]
theorem leastI_le (l : Ring) : Vd.leastI l ≤ l.length := by
  have h : Vd.leastI l = Vd.leastN l l.length := rfl
  have h2 : ∀ n, Vd.leastN l n ≤ n := fun n => by have := Vd.leastN_b l n; omega
  rw [h]; exact h2 _
theorem roundD_len (l : Ring) : (Vd.roundD l).length = l.length + 1 := by
  have h := leastI_le l
  show (l.drop (Vd.leastI l) ++ l.take (Vd.leastI l) ++ [Vd.ptAt l (Vd.leastI l)]).length = _
  simp only [List.length_append, List.length_drop, List.length_take, List.length_cons, List.length_nil]; omega
theorem ringD_len (r : Ring) (b : Bool) : (Vd.ringD r b).length = (Vd.cornersU r).length + 1 := by unfold Vd.ringD; rw [roundD_len, cornersD_len]

/-! ### what lies on the heap -/
structure DcV where
  a : Option Addr
  c : Nat
  r : Ring
def DcV.v (x : DcV) : Value := .slice x.a x.r.length x.c
def DcV.ok (base : Nat) (w : World) (x : DcV) : Prop := w.ownsRow base 32 2 x.v x.r.length (flat x.r)
structure DcQ (base : Nat) (w : World) (v : Value) (l : List DcV) : Prop where
  own : w.ownsRow base 30 1 v l.length (l.map DcV.v)
  ok : ∀ x ∈ l, x.ok base w
structure DcP where
  a : Option Addr
  c : Nat
  l : List DcV
def DcP.v (x : DcP) : Value := .slice x.a x.l.length x.c
def DcP.m (x : DcP) : Poly := x.l.map DcV.r
structure DcO (base : Nat) (w : World) (v : Value) (L : List DcP) : Prop where
  own : w.ownsRow base 33 1 v L.length (L.map DcP.v)
  ok : ∀ x ∈ L, DcQ base w x.v x.l
theorem DcV.ok.up {base : Nat} {w w' : World} {x : DcV} (h : x.ok base w) (k : Up w w') : x.ok base w' := own_up h k
theorem DcQ.up {base : Nat} {w w' : World} {v : Value} {l : List DcV} (h : DcQ base w v l) (k : Up w w') : DcQ base w' v l := ⟨own_up h.own k, fun x hx => (h.ok x hx).up k⟩
theorem DcO.up {base : Nat} {w w' : World} {v : Value} {l : List DcP} (h : DcO base w v l) (k : Up w w') : DcO base w' v l := ⟨own_up h.own k, fun x hx => (h.ok x hx).up k⟩
theorem DcQ.base {base base' : Nat} {w : World} {v : Value} {l : List DcV} (h : DcQ base w v l) (k : base' ≤ base) : DcQ base' w v l := ⟨own_base h.own k, fun x hx => own_base (h.ok x hx) k⟩
theorem DcQ.nil (base : Nat) (w : World) : DcQ base w (.slice none 0 0) [] := ⟨World.ownsRow_nil _ _ _ _, by simp⟩
theorem DcO.nil (base : Nat) (w : World) : DcO base w (.slice none 0 0) [] := ⟨World.ownsRow_nil _ _ _ _, by simp⟩
theorem DcV.ok.rd {base : Nat} {w : World} {x : DcV} (h : x.ok base w) : Rd1 w x.v x.r := own_rd1 h
theorem DcV.ok.grown {base base' n n' : Nat} {w w' : World} {x : DcV} {v : Value} {xs : List Value} {e : TypeId} (h : x.ok base w) (ho : w.ownsRow base' e n v n' xs) (he : 32 ≠ e) (hg : w.grownBy w' v.ownBlock) : x.ok base w' := own_grown h ho he hg
theorem DcQ.push {base : Nat} {w w' : World} {v : Value} {l : List DcV} {x : DcV} {g cap : Nat} (h : DcQ base w v l) (hx : x.ok base w) (hg : w.grownBy w' v.ownBlock) (hown : w'.ownsRow base 30 1 (.slice (some ⟨g, 0, none⟩) (l.length + 1) cap) (l.length + 1) (l.map DcV.v ++ [x.v])) : DcQ base w' (.slice (some ⟨g, 0, none⟩) (l.length + 1) cap) (l ++ [x]) := by
  refine ⟨by rw [List.map_append, List.length_append]; exact hown, fun y hy => ?_⟩
  rcases List.mem_append.1 hy with hy | hy
  · exact (h.ok y hy).grown h.own (by decide) hg
  · rw [List.mem_singleton.1 hy]; exact hx.grown h.own (by decide) hg
theorem DcQ.grown {base base' n n' : Nat} {w w' : World} {v u : Value} {l : List DcV} {xs : List Value} {e : TypeId} (h : DcQ base w v l) (ho : w.ownsRow base' e n u n' xs) (h1 : 30 ≠ e) (h2 : 32 ≠ e) (hg : w.grownBy w' u.ownBlock) : DcQ base w' v l := ⟨own_grown h.own ho h1 hg, fun x hx => (h.ok x hx).grown ho h2 hg⟩
theorem DcO.push {base : Nat} {w w' : World} {v : Value} {l : List DcP} {x : DcP} {g cap : Nat} (h : DcO base w v l) (hx : DcQ base w x.v x.l) (hg : w.grownBy w' v.ownBlock) (hown : w'.ownsRow base 33 1 (.slice (some ⟨g, 0, none⟩) (l.length + 1) cap) (l.length + 1) (l.map DcP.v ++ [x.v])) : DcO base w' (.slice (some ⟨g, 0, none⟩) (l.length + 1) cap) (l ++ [x]) := by
  refine ⟨by rw [List.map_append, List.length_append]; exact hown, fun y hy => ?_⟩
  rcases List.mem_append.1 hy with hy | hy
  · exact (h.ok y hy).grown h.own (by decide) (by decide) hg
  · rw [List.mem_singleton.1 hy]; exact hx.grown h.own (by decide) (by decide) hg
theorem DcQ.cell {base : Nat} {w : World} {g n cap : Nat} {l : List DcV} (h : DcQ base w (.slice (some ⟨g, 0, none⟩) n cap) l) {i : Nat} {x : DcV} (hi : l[i]? = some x) : w.cell? ⟨g, i, none⟩ = some x.v := by
  obtain ⟨g', cap', e', hc⟩ := own_cell h.own (by have := Pl.lt_of_some hi; omega)
  cases e'
  exact hc i _ (by rw [List.getElem?_map, hi]; rfl)
theorem DcO.cell {base : Nat} {w : World} {g n cap : Nat} {l : List DcP} (h : DcO base w (.slice (some ⟨g, 0, none⟩) n cap) l) {i : Nat} {x : DcP} (hi : l[i]? = some x) : w.cell? ⟨g, i, none⟩ = some x.v := by
  obtain ⟨g', cap', e', hc⟩ := own_cell h.own (by have := Pl.lt_of_some hi; omega)
  cases e'
  exact hc i _ (by rw [List.getElem?_map, hi]; rfl)
theorem DcQ.rd {base : Nat} {w : World} {v : Value} {l : List DcV} (h : DcQ base w v l) : Rd2 w v (l.map DcV.r) := by
  obtain ⟨ao, cap, rfl⟩ := own_len h.own
  refine ⟨ao, cap, by rw [List.length_map], fun i r hi => ?_⟩
  rw [List.getElem?_map] at hi
  obtain ⟨x, hx, rfl⟩ := Option.map_eq_some_iff.1 hi
  obtain ⟨g', cap', e', hc⟩ := own_cell h.own (by have := Pl.lt_of_some hx; omega)
  cases e'
  exact ⟨g', x.v, rfl, hc i _ (by rw [List.getElem?_map, hx]; rfl), (h.ok x (Pl.mem_of_some hx)).rd⟩
theorem DcO.rd {base : Nat} {w : World} {v : Value} {l : List DcP} (h : DcO base w v l) : Rd3 w v (l.map DcP.m) := by
  obtain ⟨ao, cap, rfl⟩ := own_len h.own
  refine ⟨ao, cap, by rw [List.length_map], fun i r hi => ?_⟩
  rw [List.getElem?_map] at hi
  obtain ⟨x, hx, rfl⟩ := Option.map_eq_some_iff.1 hi
  obtain ⟨g', cap', e', hc⟩ := own_cell h.own (by have := Pl.lt_of_some hx; omega)
  cases e'
  exact ⟨g', x.v, rfl, hc i _ (by rw [List.getElem?_map, hx]; rfl), (h.ok x (Pl.mem_of_some hx)).rd⟩
/-- Two that stand beside each other change places. -/
theorem DcQ.swap {base : Nat} {w : World} {g n cap : Nat} {A B : List DcV} {x y : DcV} (h : DcQ base w (.slice (some ⟨g, 0, none⟩) n cap) (A ++ y :: x :: B)) : DcQ base ((w.setCell ⟨g, A.length + 1, none⟩ y.v).setCell ⟨g, A.length, none⟩ x.v) (.slice (some ⟨g, 0, none⟩) n cap) (A ++ x :: y :: B) := by
  have hn : n = (A ++ y :: x :: B).length := by
    rcases h.own.2 with ⟨h', _⟩ | ⟨g', cap', cur, h', _⟩
    · cases h'
    · cases h'; rfl
  subst hn
  have o1 := (h.own.stored (A.length + 1) y.v).1
  have o2 := (o1.stored A.length x.v).1
  refine ⟨?_, fun z hz => ?_⟩
  · have e : (((A ++ y :: x :: B).map DcV.v).set (A.length + 1) y.v).set A.length x.v = (A ++ x :: y :: B).map DcV.v := by
      rw [List.map_append, List.set_append_right _ _ (by simp), List.set_append_right _ _ (by simp), List.length_map, Nat.sub_self, show A.length + 1 - A.length = 1 by omega, List.map_append]; rfl
    rw [e] at o2
    have el : (A ++ x :: y :: B).length = (A ++ y :: x :: B).length := by simp
    rw [el]; exact o2
  · have hz2 : z ∈ A ++ y :: x :: B := by
      simp only [List.mem_append, List.mem_cons] at hz ⊢
      rcases hz with h | h | h | h
      · exact .inl h
      · exact .inr (.inr (.inl h))
      · exact .inr (.inl h)
      · exact .inr (.inr (.inr h))
    have k := h.ok z hz2
    have hne : z.v.ownBlock ≠ some g := fun e => own_ne k h.own (by decide) e rfl
    exact own_set (own_set k (a := ⟨g, A.length + 1, none⟩) hne _) (a := ⟨g, A.length, none⟩) hne _
theorem DcO.swap {base : Nat} {w : World} {g n cap : Nat} {A B : List DcP} {x y : DcP} (h : DcO base w (.slice (some ⟨g, 0, none⟩) n cap) (A ++ y :: x :: B)) : DcO base ((w.setCell ⟨g, A.length + 1, none⟩ y.v).setCell ⟨g, A.length, none⟩ x.v) (.slice (some ⟨g, 0, none⟩) n cap) (A ++ x :: y :: B) := by
  have hn : n = (A ++ y :: x :: B).length := by
    rcases h.own.2 with ⟨h', _⟩ | ⟨g', cap', cur, h', _⟩
    · cases h'
    · cases h'; rfl
  subst hn
  have o1 := (h.own.stored (A.length + 1) y.v).1
  have o2 := (o1.stored A.length x.v).1
  refine ⟨?_, fun z hz => ?_⟩
  · have e : (((A ++ y :: x :: B).map DcP.v).set (A.length + 1) y.v).set A.length x.v = (A ++ x :: y :: B).map DcP.v := by
      rw [List.map_append, List.set_append_right _ _ (by simp), List.set_append_right _ _ (by simp), List.length_map, Nat.sub_self, show A.length + 1 - A.length = 1 by omega, List.map_append]; rfl
    rw [e] at o2
    have el : (A ++ x :: y :: B).length = (A ++ y :: x :: B).length := by simp
    rw [el]; exact o2
  · have hz2 : z ∈ A ++ y :: x :: B := by
      simp only [List.mem_append, List.mem_cons] at hz ⊢
      rcases hz with h | h | h | h
      · exact .inl h
      · exact .inr (.inr (.inl h))
      · exact .inr (.inl h)
      · exact .inr (.inr (.inr h))
    have k := h.ok z hz2
    have hne : z.v.ownBlock ≠ some g := fun e => own_ne k.own h.own (by decide) e rfl
    refine ⟨own_set (own_set k.own (a := ⟨g, A.length + 1, none⟩) hne _) (a := ⟨g, A.length, none⟩) hne _, fun t ht => ?_⟩
    have k2 := k.ok t ht
    have hne2 : t.v.ownBlock ≠ some g := fun e => own_ne k2 h.own (by decide) e rfl
    exact own_set (own_set k2 (a := ⟨g, A.length + 1, none⟩) hne2 _) (a := ⟨g, A.length, none⟩) hne2 _
end Go.Proofs.YtcclepohmhdpbaaGreatDoor

/- THE ONE WAY, PLAINLY: it is a set again. -/
namespace Go.Proofs.YtcclepohmhdpbaaGreatDoor
set_option linter.all false
namespace Vd

theorem polyD_size (l : Poly) : (polyD l).length = l.length := by
  cases l with
  | nil => rfl
  | cons r t => rw [polyD, List.length_cons, (sortD_perm cmpR _).length_eq, List.length_map]; rfl
theorem polyD_mem {l : Poly} {x : Ring} (h : x ∈ polyD l) : ∃ r ∈ l, ∃ b, x = ringD r b := by
  cases l with
  | nil => cases h
  | cons r t =>
    rw [polyD] at h
    rcases List.mem_cons.1 h with h | h
    · exact ⟨r, by simp, true, h⟩
    · obtain ⟨q, hq, e⟩ := List.mem_map.1 ((sortD_perm cmpR _).mem_iff.1 h)
      exact ⟨q, by simp [hq], false, e.symm⟩
theorem canonD_perm (m : Mult) : (canonD m).Perm (m.map polyD) := sortD_perm cmpP _
theorem canonD_mem {m : Mult} {x : Poly} (h : x ∈ canonD m) : ∃ l ∈ m, x = polyD l := by
  obtain ⟨q, hq, e⟩ := List.mem_map.1 ((canonD_perm m).mem_iff.1 h)
  exact ⟨q, hq, e.symm⟩
theorem cornersU_size (r : Ring) : (cornersU r).length ≤ r.length - 1 := by
  unfold cornersU
  rw [List.length_map]
  have := List.length_filter_le (turnD r) (List.range (r.length - 1))
  simpa using this
theorem cornersU_mem {r : Ring} {p : Pnt} (h : p ∈ cornersU r) : p ∈ r := by
  unfold cornersU at h
  obtain ⟨i, hi, rfl⟩ := List.mem_map.1 h
  have hi2 := List.mem_range.1 (List.mem_filter.1 hi).1
  obtain ⟨p, hp⟩ := Pl.some_of_lt (show i < r.length by omega)
  have : ptAt r i = p := by unfold ptAt; rw [List.getD_eq_getElem?_getD, hp]; rfl
  rw [this]; exact Pl.mem_of_some hp
theorem cornersD_size (r : Ring) (b : Bool) : (cornersD r b).length = (cornersU r).length := by
  unfold cornersD; split
  · rfl
  · rw [List.length_reverse]
theorem cornersD_mem {r : Ring} {b : Bool} {p : Pnt} (h : p ∈ cornersD r b) : p ∈ r := by
  unfold cornersD at h; split at h
  · exact cornersU_mem h
  · exact cornersU_mem (List.mem_reverse.1 h)
theorem leastI_low {l : Ring} (h : l ≠ []) : leastI l < l.length := by
  have h1 : leastI l = leastN l l.length := rfl
  have h2 := leastN_b l l.length
  have h3 : 0 < l.length := List.length_pos_iff.2 h
  rw [h1]; omega
theorem ptAt_in {l : Ring} {i : Nat} (h : i < l.length) : ptAt l i ∈ l := by
  obtain ⟨p, hp⟩ := Pl.some_of_lt h
  have : ptAt l i = p := by unfold ptAt; rw [List.getD_eq_getElem?_getD, hp]; rfl
  rw [this]; exact Pl.mem_of_some hp
theorem roundD_split (l : Ring) : roundD l = l.drop (leastI l) ++ l.take (leastI l) ++ [ptAt l (leastI l)] := rfl
theorem roundD_size {l : Ring} : (roundD l).length = l.length + 1 := by
  rw [roundD_split]
  have := leastN_b l l.length
  have h1 : leastI l = leastN l l.length := rfl
  simp only [List.length_append, List.length_drop, List.length_take, List.length_cons, List.length_nil]; omega
theorem roundD_mem {l : Ring} (h : l ≠ []) {p : Pnt} (hp : p ∈ roundD l) : p ∈ l := by
  rw [roundD_split] at hp
  rcases List.mem_append.1 hp with hp | hp
  · rcases List.mem_append.1 hp with hp | hp
    · exact List.mem_of_mem_drop hp
    · exact List.mem_of_mem_take hp
  · rw [List.mem_singleton.1 hp]; exact ptAt_in (leastI_low h)
theorem roundD_ends {l : Ring} (h : l ≠ []) : (roundD l).head? = (roundD l).getLast? := by
  have hl := leastI_low h
  rw [roundD_split, List.getLast?_append, List.append_assoc, List.head?_append]
  have : (l.drop (leastI l)).head? = some (ptAt l (leastI l)) := by
    rw [List.head?_drop]
    obtain ⟨p, hp⟩ := Pl.some_of_lt hl
    have e : ptAt l (leastI l) = p := by unfold ptAt; rw [List.getD_eq_getElem?_getD, hp]; rfl
    rw [hp, e]
  rw [this]; rfl
theorem VR.cornersU_three {r : Ring} (h : VR r) : 3 ≤ (cornersU r).length := by
  obtain ⟨M, E, e1, e2⟩ := h.corners_split
  have := h.corners_three
  rw [e1] at this
  rw [e2]
  simp only [List.length_append] at this ⊢
  omega
theorem ringD_size (r : Ring) (b : Bool) : (ringD r b).length = (cornersU r).length + 1 := by unfold ringD; rw [roundD_size, cornersD_size]
theorem VR.cornersD_ne {r : Ring} (h : VR r) (b : Bool) : cornersD r b ≠ [] := by
  intro e
  have h1 := h.cornersU_three
  have h2 := cornersD_size r b
  rw [e] at h2
  simp at h2; omega
theorem VR.bad {r : Ring} (h : VR r) (b : Bool) : Pl.badR (ringD r b) = false := by
  unfold Pl.badR
  have h1 := h.cornersU_three
  have h2 := ringD_size r b
  have h3 : (ringD r b).head? = (ringD r b).getLast? := roundD_ends (h.cornersD_ne b)
  rw [decide_eq_false (show ¬ (ringD r b).length < 4 by omega), decide_eq_true h3]; rfl
theorem VR.wide {r : Ring} (h : VR r) (b : Bool) (k : Pl.wideR r = false) : Pl.wideR (ringD r b) = false := by
  unfold Pl.wideR at *
  rw [List.any_eq_false] at *
  intro p hp
  exact k p (cornersD_mem (roundD_mem (h.cornersD_ne b) hp))
theorem perm_sum {α : Type} (f : α → Nat) {l k : List α} (h : l.Perm k) : (l.map f).sum = (k.map f).sum := (h.map f).sum_nat
theorem nR_canon (m : Mult) : Pl.nR (canonD m) = Pl.nR m := by
  unfold Pl.nR
  rw [perm_sum List.length (canonD_perm m), List.map_map]
  congr 1
  exact List.map_congr_left fun l _ => polyD_size l
theorem sum_le {α : Type} (f g : α → Nat) : ∀ l : List α, (∀ x ∈ l, f x ≤ g x) → (l.map f).sum ≤ (l.map g).sum := by
  intro l
  induction l with
  | nil => intro _; exact Nat.le_refl _
  | cons a t ih =>
    intro h
    rw [List.map_cons, List.map_cons, List.sum_cons, List.sum_cons]
    have h1 := h a (by simp)
    have h2 := ih fun x hx => h x (by simp [hx])
    omega
theorem nPl_poly {l : Poly} (h : ∀ r ∈ l, 1 ≤ r.length) : Pl.nPl (polyD l) ≤ Pl.nPl l := by
  have one : ∀ r ∈ l, ∀ b, (ringD r b).length ≤ r.length := fun r hr b => by
    have h1 := ringD_size r b
    have h2 := cornersU_size r
    have h3 := h r hr
    omega
  cases l with
  | nil => exact Nat.le_refl _
  | cons r t =>
    unfold Pl.nPl
    rw [polyD, List.map_cons, List.map_cons, List.sum_cons, List.sum_cons, perm_sum List.length (sortD_perm cmpR _), List.map_map]
    have h1 := one r (by simp) true
    have h2 := sum_le (List.length ∘ fun r => ringD r false) List.length t fun x hx => one x (by simp [hx]) false
    omega
theorem nP_canon {m : Mult} (h : ∀ l ∈ m, ∀ r ∈ l, 1 ≤ r.length) : Pl.nP (canonD m) ≤ Pl.nP m := by
  unfold Pl.nP
  rw [perm_sum Pl.nPl (canonD_perm m), List.map_map]
  exact sum_le (Pl.nPl ∘ polyD) Pl.nPl m fun l hl => nPl_poly (h l hl)
theorem wrong0 {m : Mult} (h : Pl.wrong m = 0) : Pl.many m = false ∧ m.any Pl.badL = false ∧ m.any Pl.wideL = false := by
  unfold Pl.wrong at h
  cases h1 : Pl.many m <;> cases h2 : m.any Pl.badL <;> cases h3 : m.any Pl.wideL <;> simp_all
theorem canon_wrong {m : Mult} (h0 : Pl.wrong m = 0) (hv : ∀ l ∈ m, ∀ r ∈ l, VR r) : Pl.wrong (canonD m) = 0 := by
  obtain ⟨h1, h2, h3⟩ := wrong0 h0
  have hg := good_of h0
  have k1 : Pl.many (canonD m) = false := by
    unfold Pl.many at *
    simp only [Bool.or_eq_false_iff, decide_eq_false_iff_not] at *
    have e1 := (canonD_perm m).length_eq
    rw [List.length_map] at e1
    have e2 := nR_canon m
    have e3 := nP_canon (m := m) fun l hl r hr => by have := (hv l hl r hr).shut.len; omega
    omega
  have k2 : (canonD m).any Pl.badL = false := by
    rw [List.any_eq_false]
    intro x hx
    obtain ⟨l, hl, rfl⟩ := canonD_mem hx
    have hne := hg.ne l hl
    unfold Pl.badL Pl.badRs
    simp only [Bool.or_eq_true, not_or, Bool.not_eq_true]
    constructor
    · have e := polyD_size l
      cases hp : polyD l with
      | nil => rw [hp] at e; exact absurd (List.eq_nil_of_length_eq_zero e.symm) hne
      | cons a t => rfl
    · rw [List.any_eq_false]
      intro y hy
      obtain ⟨r, hr, b, rfl⟩ := polyD_mem hy
      rw [(hv l hl r hr).bad b]; simp
  have k3 : (canonD m).any Pl.wideL = false := by
    rw [List.any_eq_false] at h3 ⊢
    intro x hx
    obtain ⟨l, hl, rfl⟩ := canonD_mem hx
    have h4 := h3 l hl
    unfold Pl.wideL at h4 ⊢
    rw [Bool.not_eq_true, List.any_eq_false] at h4 ⊢
    intro y hy
    obtain ⟨r, hr, b, rfl⟩ := polyD_mem hy
    have h5 := h4 r hr
    rw [Bool.not_eq_true] at h5 ⊢
    exact (hv l hl r hr).wide b h5
  unfold Pl.wrong
  rw [k1, k2, k3]; rfl
end Vd
end Go.Proofs.YtcclepohmhdpbaaGreatDoor
