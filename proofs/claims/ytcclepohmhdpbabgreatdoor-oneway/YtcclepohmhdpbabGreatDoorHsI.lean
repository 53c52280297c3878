import Derived.Test.YtcclepohmhdpbabGreatDoorClL
import Derived.Test.YtcclepohmhdpbabGreatDoorVdI
namespace Go.Proofs.YtcclepohmhdpbabGreatDoor
set_option linter.all false
open Go.RowKit Go.Deep
theorem inPolyL_cons (r : Ring) (t : List Ring) (f : Bool) (p : Vd.Spot) : Vd.inPolyL (r :: t) f p = if (f && decide (Vd.place r p = 0)) || (!f && decide (Vd.place r p = 2)) then false else Vd.inPolyL t false p := by rw [Vd.inPolyL]
theorem drop_at' {α : Type} {l : List α} {k : Nat} {x : α} (h : l[k]? = some x) : l.drop k = x :: l.drop (k + 1) := by
 have hk := Pl.lt_of_some h
 rw [List.drop_eq_getElem_cons hk]
 rw [List.getElem?_eq_getElem hk] at h
 rw [Option.some.inj h]
set_option maxRecDepth 8000 in
set_option maxHeartbeats 4000000 in
theorem inPolygon_any (v : Value) (l : Poly) (p : Vd.Spot) (w : World) (hv : Rd2 w v l) (hl : l.length ≤ 1048576) (hr : ∀ r ∈ l, r.length ≤ 1048576) (hc : Vd.CdL l) (hp : Vd.Sp p) :
  Calls Tryz.prog 73 #[v, spotV p] w fun e w' => e = .returned (.bool (Vd.inPoly l p)) ∧ Up w w' := by
 obtain ⟨ao, cap, rfl, hm⟩ := hv
 have HM := hide hm
 have HC := hide hc
 have HP := hide hp
 have HL := hide hr
 have HD : Hid (Vd.inPoly l p = (Vd.inPolyL l true p && decide (0 < l.length))) := rfl
 clear hm hc hp hr
 have HPL : Hid (∀ r ∈ l, ∀ v w, Rd1 w v r → Calls Tryz.prog 113 #[v, spotV p] w fun e w' => e = .returned (.int .i64 (Vd.place r p)) ∧ Up w w') := fun r hr v w hv => place_any v r p w hv (HL.out r hr) (HC.out r hr) HP.out
 have HX := hide (fun r t f => inPolyL_cons r t f p)
 generalize hG : (fun (t : List Ring) (f : Bool) => Vd.inPolyL t f p) = F at *
 have HG : Hid (∀ t f, Vd.inPolyL t f p = F t f) := fun t f => by rw [← hG]
 have HN : Hid (∀ f, F [] f = true) := fun f => by rw [← hG]; rfl
 simp only [HG.out] at HX HD
 clear hG HG
 obtain ⟨⟨x, y⟩, d⟩ := p
 simp only [spotV] at *
 have R0 := hide (new_row (w := w) (o := .cells #[.int .i64 x, .int .i64 y, .int .i64 d] 65) (vs := [.int .i64 x, .int .i64 y, .int .i64 d]) rfl)
 have HU0 : Hid (Up w (w.alloc (.cells #[.int .i64 x, .int .i64 y, .int .i64 d] 65))) := (Up.refl _).alloc _
 go_enter Tryz.func73, Tryz.ntmps73
 go_wp2
 go_loopw [10] (fun i wr => ∃ k : Nat, i = .int .i64 k ∧ k ≤ l.length ∧ Hid (Up w wr) ∧ Hid (VRow wr w.heap.size 65 [.int .i64 x, .int .i64 y, .int .i64 d]) ∧ Hid (F l true = F (l.drop k) (decide (k = 0)))) (fun i _ => l.length - (intOf i).toNat)
 case atStart => exact ⟨0, rfl, Nat.zero_le _, HU0, R0, by show F l true = F (l.drop 0) (decide (0 = 0)); simp⟩
 case round =>
  clear HU0 R0
  obtain ⟨k, rfl, hk, HU, R0, HE⟩ := hrel
  by_cases hlt : k < l.length
  ·obtain ⟨r, hr⟩ := Pl.some_of_lt hlt
   obtain ⟨b, u, rfl, cu, hu⟩ := HM.out k r hr
   have HK := hide (HPL.out r (Pl.mem_of_some hr) u wr (hu.up HU.out))
   have HXk := hide (HX.out r (l.drop (k + 1)) (decide (k = 0)))
   rw [drop_at' hr] at HE
   have cu2 := HU.out.cell cu
   have s0 := R0.out.cell (i := 0) rfl
   have s1 := R0.out.cell (i := 1) rfl
   have s2 := R0.out.cell (i := 2) rfl
   have i3 : (0 : Int) ≤ (k : Int) := by omega
   have i4 : (k : Int) < (l.length : Int) := by omega
   generalize Vd.place r ((x, y), d) = M at *
   have HlD : Hid (Vd.inPoly l ((x, y), d) = F l true) := by rw [HD.out, decide_eq_true (show 0 < l.length by omega), Bool.and_true]; exact rfl
   clear hr cu hu
   go_wp2_with fail
   refine HK.out.mono ?_
   rintro e w2 ⟨rfl, hz⟩
   have HU2 := hide (HU.out.trans hz)
   have R2 := hide (R0.out.up hz)
   clear hz cu2 s0 s1 s2 HK
   by_cases hk0 : k = 0
   ·subst hk0
    rw [decide_eq_true rfl] at HXk HE
    by_cases hM : M = 0
    ·subst hM
     have HR : Hid (Vd.inPoly l ((x, y), d) = false) := by rw [HlD.out, HE.out, HXk.out]; simp [Hid]
     go_wp2
     go_ret
     exact ⟨ret_b HR.out.symm, HU2.out⟩
    ·have hM' : (M == 0) = false := beq_eq_false_iff_ne.2 hM
     have HE2 : Hid (F l true = F (l.drop (0 + 1)) (decide (0 + 1 = 0))) := by rw [HE.out, HXk.out]; simp [hM, Hid]
     go_wp2
     go_roundw
     case rel => exact ⟨0 + 1, by go_num, by omega, HU2, R2, HE2⟩
     case measure => simp [intOf]; omega
   ·have hk0' : ((k : Int) == 0) = false := beq_eq_false_iff_ne.2 (by omega)
    have i5 : (0 : Int) < (k : Int) := by omega
    rw [decide_eq_false hk0] at HXk HE
    by_cases hM : M = 2
    ·subst hM
     have HR : Hid (Vd.inPoly l ((x, y), d) = false) := by rw [HlD.out, HE.out, HXk.out]; simp [Hid]
     go_wp2
     go_ret
     exact ⟨ret_b HR.out.symm, HU2.out⟩
    ·have hM' : (M == 2) = false := beq_eq_false_iff_ne.2 hM
     have HE2 : Hid (F l true = F (l.drop (k + 1)) (decide (k + 1 = 0))) := by rw [HE.out, HXk.out]; simp [hM, Hid]
     go_wp2
     go_roundw
     case rel => exact ⟨k + 1, by go_num, by omega, HU2, R2, HE2⟩
     case measure => simp [intOf]; omega
  ·have hk2 : k = l.length := by omega
   have HR : Hid (Vd.inPoly l ((x, y), d) = decide (0 < l.length)) := by
    rw [HD.out, HE.out, hk2, List.drop_length, HN.out, Bool.true_and]; exact rfl
   clear hk2
   go_wp2
   go_ret
   exact ⟨ret_b (by rw [HR.out]), HU.out⟩
set_option maxRecDepth 8000 in
set_option maxHeartbeats 4000000 in
theorem inSet_any (v : Value) (m : Mult) (p : Vd.Spot) (w : World) (hv : Rd3 w v m) (hz : Sz m) (hp : Vd.Sp p) :
  Calls Tryz.prog 52 #[v, spotV p] w fun e w' => e = .returned (.bool (Vd.inSet m p)) ∧ Up w w' := by
 obtain ⟨ao, cap, rfl, hm⟩ := hv
 have HM := hide hm
 have HZ := hide hz
 have hl := hz.len
 have HP := hide hp
 have HD : Hid (Vd.inSet m p = m.any fun l => Vd.inPoly l p) := rfl
 have HPL : Hid (∀ l ∈ m, ∀ v w, Rd2 w v l → Calls Tryz.prog 73 #[v, spotV p] w fun e w' => e = .returned (.bool (Vd.inPoly l p)) ∧ Up w w') := fun l hl v w hv => inPolygon_any v l p w hv (HZ.out.poly l hl) (fun r hr => by have := HZ.out.ring l hl r hr; omega) (HZ.out.cd l hl) HP.out
 generalize hF : (fun l => Vd.inPoly l p) = F at *
 replace HPL : Hid (∀ l ∈ m, ∀ v w, Rd2 w v l → Calls Tryz.prog 73 #[v, spotV p] w fun e w' => e = .returned (.bool (F l)) ∧ Up w w') := by subst hF; exact HPL
 clear hm hz hp hF
 obtain ⟨⟨x, y⟩, d⟩ := p
 simp only [spotV] at *
 have R0 := hide (new_row (w := w) (o := .cells #[.int .i64 x, .int .i64 y, .int .i64 d] 65) (vs := [.int .i64 x, .int .i64 y, .int .i64 d]) rfl)
 have HU0 : Hid (Up w (w.alloc (.cells #[.int .i64 x, .int .i64 y, .int .i64 d] 65))) := (Up.refl _).alloc _
 go_enter Tryz.func52, Tryz.ntmps52
 go_wp2
 go_loopw [9] (fun i wr => ∃ k : Nat, i = .int .i64 k ∧ k ≤ m.length ∧ Hid (Up w wr) ∧ Hid (VRow wr w.heap.size 65 [.int .i64 x, .int .i64 y, .int .i64 d]) ∧ Hid ((m.take k).any F = false)) (fun i _ => m.length - (intOf i).toNat)
 case atStart => exact ⟨0, rfl, Nat.zero_le _, HU0, R0, rfl⟩
 case round =>
  clear HU0 R0
  obtain ⟨k, rfl, hk, HU, R0, HE⟩ := hrel
  by_cases hlt : k < m.length
  ·obtain ⟨l, hr⟩ := Pl.some_of_lt hlt
   obtain ⟨b, u, rfl, cu, hu⟩ := HM.out k l hr
   have HK := hide (HPL.out l (Pl.mem_of_some hr) u wr (hu.up HU.out))
   have HS := hide (Pl.any_take_succ F hr)
   have HTq : Hid (F l = true → m.any F = true) := fun h => Pl.any_true_of F hr h
   have cu2 := HU.out.cell cu
   have s0 := R0.out.cell (i := 0) rfl
   have s1 := R0.out.cell (i := 1) rfl
   have s2 := R0.out.cell (i := 2) rfl
   have i3 : (0 : Int) ≤ (k : Int) := by omega
   have i4 : (k : Int) < (m.length : Int) := by omega
   generalize F l = B at *
   clear hr cu hu
   go_wp2_with fail
   refine HK.out.mono ?_
   rintro e w2 ⟨rfl, hz⟩
   have HU2 := hide (HU.out.trans hz)
   have R2 := hide (R0.out.up hz)
   clear hz cu2 s0 s1 s2 HK
   cases B
   ·have HE2 : Hid ((m.take (k + 1)).any F = false) := by rw [HS.out, HE.out]; exact rfl
    go_wp2
    go_roundw
    case rel => exact ⟨k + 1, by go_num, by omega, HU2, R2, HE2⟩
    case measure => simp [intOf]; omega
   ·have HR : Hid (Vd.inSet m ((x, y), d) = true) := by rw [HD.out]; exact HTq.out rfl
    go_wp2
    go_ret
    exact ⟨ret_b HR.out.symm, HU2.out⟩
  ·have hk2 : k = m.length := by omega
   have HR : Hid (Vd.inSet m ((x, y), d) = false) := by rw [HD.out]; have := HE.out; rw [hk2, List.take_length] at this; exact this
   clear hk2
   go_wp2
   go_ret
   exact ⟨ret_b HR.out.symm, HU.out⟩
end Go.Proofs.YtcclepohmhdpbabGreatDoor
