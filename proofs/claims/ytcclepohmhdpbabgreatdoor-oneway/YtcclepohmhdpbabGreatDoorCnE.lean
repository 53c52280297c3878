import Derived.Test.YtcclepohmhdpbabGreatDoorCnD
import Derived.Test.YtcclepohmhdpbabGreatDoorVdI
import Derived.Test.YtcclepohmhdpbabGreatDoorNoted
namespace Go.Proofs.YtcclepohmhdpbabGreatDoor
set_option linter.all false
open Go.RowKit Go.Deep
def Vls (w : World) (v : Value) (us : List Value) : Prop := ∃ ao cap, v = .slice ao us.length cap ∧ ∀ i u, us[i]? = some u → ∃ b, ao = some ⟨b, 0, none⟩ ∧ w.cell? ⟨b, i, none⟩ = some u
def usAt (us : List Value) (i : Nat) : Value := us.getD i (.slice none 0 0)
theorem usAt_some {us : List Value} {i : Nat} {u : Value} (h : us[i]? = some u) : usAt us i = u := by unfold usAt; rw [List.getD_eq_getElem?_getD, h]; rfl
def layV (m : Mult) (us : List Value) (n : Nat) : List Value := Vd.layN (fun i => Vd.cntA m i m.length) (usAt us) (znil m.length) n
theorem layV_len (m : Mult) (us : List Value) (n : Nat) : (layV m us n).length = m.length := by unfold layV; rw [Vd.layN_len]; simp [znil]
theorem layV_succ (m : Mult) (us : List Value) (n : Nat) : layV m us (n + 1) = (layV m us n).set (Vd.cntA m n m.length) (usAt us n) := by unfold layV; rw [Vd.layN_succ]
theorem layV_at {m : Mult} {us : List Value} {i : Nat} (hi : i < m.length) : (layV m us m.length)[Vd.cntA m i m.length]? = some (usAt us i) :=
 Vd.layN_at (f := fun i => Vd.cntA m i m.length) (N := m.length) (fun i h => by simpa [znil] using Vd.cnt_small h) (fun i k h1 h2 => Vd.cnt_inj h1 h2) m.length (Nat.le_refl _) i hi
set_option maxRecDepth 8000 in
set_option maxHeartbeats 4000000 in
theorem inOrder_any (v : Value) (m : Mult) (us : List Value) (w : World) (hv : Rd3 w v m) (hu : Vls w v us) (hlen : us.length = m.length) (hm : m.length ≤ 1048576) (hl : ∀ l ∈ m, l.length ≤ 1048576) (hr : ∀ l ∈ m, ∀ r ∈ l, r.length ≤ 1048576) :
  Calls Tryz.prog 45 #[v] w fun e w' => ∃ G : Nat, e = .returned (.slice (some ⟨G, 0, none⟩) m.length m.length) ∧ w.heap.size ≤ G ∧ VRow w' G 45 (layV m us m.length) ∧ Up w w' := by
 have HL := hide hl
 have HR := hide hr
 obtain ⟨ao, cap, rfl, hU⟩ := hu
 have HUs := hide hU
 have HLn := hide hlen
 rw [hlen] at hv ⊢
 have HV := hide hv
 have HSl : Hid (∀ (i : Nat) (u : Value), us[i]? = some u → ∃ a n c, u = .slice a n c) := fun i u hu => by
  obtain ⟨b, e, c⟩ := HUs.out i u hu
  obtain ⟨ao2, cap2, e2, h2⟩ := HV.out
  cases e2
  obtain ⟨l, hl⟩ := Pl.some_of_lt (show i < m.length by rw [← HLn.out]; exact Pl.lt_of_some hu)
  obtain ⟨b', u', e', c', hu'⟩ := h2 i l hl
  rw [e] at e'
  cases e'
  rw [c] at c'
  cases c'
  obtain ⟨a, cp, rfl, -⟩ := hu'
  exact ⟨_, _, _, rfl⟩
 have hmk := make_polys m.length (by omega)
 clear hv hl hr hU hlen
 go_enter Tryz.func45, Tryz.ntmps45
 go_wp2
 have HUp : Hid (Up w (w.alloc (.cells (znil m.length).toArray 45))) := (Up.refl _).alloc _
 have RB : Hid (VRow (w.alloc (.cells (znil m.length).toArray 45)) w.heap.size 45 (layV m us 0)) := VRow.new w _ _
 obtain ⟨G, hG⟩ : ∃ G, w.heap.size = G := ⟨_, rfl⟩
 rw [hG] at RB ⊢
 have HG := hide hG
 generalize w.alloc (.cells (znil m.length).toArray 45) = W0 at *
 clear hmk hG
 go_loopw [11] (fun i wq => ∃ t : Nat, i = .int .i64 t ∧ t ≤ m.length ∧ Hid (Up w wq) ∧ Hid (VRow wq G 45 (layV m us t))) (fun i _ => m.length - (intOf i).toNat)
 case atStart => exact ⟨0, rfl, Nat.zero_le _, HUp, RB⟩
 case round =>
  clear HUp RB
  obtain ⟨k, rfl, hk, HU, RB⟩ := hrel
  by_cases hlt : k < m.length
  ·obtain ⟨u, hu⟩ := Pl.some_of_lt (show k < us.length by rw [HLn.out]; exact hlt)
   obtain ⟨b, rfl, c0⟩ := HUs.out k u hu
   obtain ⟨ua, un, uc, rfl⟩ := HSl.out k u hu
   have HX := hide (layV_succ m us k)
   rw [usAt_some hu] at HX
   have e0 := HU.out.cell c0
   have hcl := Vd.cnt_small (m := m) hlt
   have HKc := hide (countAhead_any _ m k wr (HV.out.up HU.out) hlt hm HL.out HR.out)
   generalize Vd.cntA m k m.length = C at *
   have i1 : (0 : Int) ≤ (k : Int) := by omega
   have i2 : (k : Int) < (m.length : Int) := by omega
   have i3 : (0 : Int) ≤ (C : Int) := by omega
   have i4 : (C : Int) < (m.length : Int) := by omega
   clear hu c0
   go_wp2_with fail
   refine HKc.out.mono ?_
   rintro e w2 ⟨rfl, hu2⟩
   have HU2 := hide (HU.out.trans hu2)
   have RB2 := hide (RB.out.up hu2)
   obtain ⟨z, hz⟩ := Pl.some_of_lt (show C < (layV m us k).length by rw [layV_len]; exact hcl)
   have z0 := RB2.out.cell hz
   have zf := fun i => RB2.out.frozen i
   have hlow : Hid (w.heap.size ≤ G) := Nat.le_of_eq HG.out
   try dsimp only at z0 zf
   clear hu2 e0 HKc hz RB
   go_wp2
   go_roundw
   case rel => exact ⟨k + 1, by go_num, by omega, HU2.out.setCell hlow.out _, by rw [HX.out]; exact RB2.out.set C _⟩
   case measure => simp [intOf]; omega
  ·have hk2 : k = m.length := by omega
   have HRr : Hid (VRow wr G 45 (layV m us m.length)) := by have := RB.out; rw [hk2] at this; exact this
   have i2 : ¬ (k : Int) < (m.length : Int) := by omega
   clear hk2
   go_wp2
   go_ret
   exact ⟨G, rfl, Nat.le_of_eq HG.out, HRr.out, HU.out⟩
end Go.Proofs.YtcclepohmhdpbabGreatDoor
