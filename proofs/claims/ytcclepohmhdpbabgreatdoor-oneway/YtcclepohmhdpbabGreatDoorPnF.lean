import Derived.Test.YtcclepohmhdpbabGreatDoorApB
namespace Go.Proofs.YtcclepohmhdpbabGreatDoor
set_option linter.all false
open Go.RowKit Go.Deep
theorem ray_of (s : Vd.Seg) (p : Vd.Spot) : Vd.ray s.1 s.2 p.1 p.2 = if decide (p.1.2 < s.1.2 * p.2) = decide (p.1.2 < s.2.2 * p.2) then false else if decide (p.1.2 < s.2.2 * p.2) = true then decide (0 < Vd.side s p) else decide (Vd.side s p < 0) := by
 unfold Vd.ray Vd.side
 simp only [decide_eq_true_eq]
set_option maxHeartbeats 2000000 in
theorem ray_any (s : Vd.Seg) (p : Vd.Spot) (hs : Vd.CdS s) (hp : Vd.Sp p) (w : World) : Calls Tryz.prog 141 #[segV s, spotV p] w fun e w' => e = .returned (.bool (Vd.ray s.1 s.2 p.1 p.2)) ∧ Up w w' := by
 have HB := hide (ray_of s p)
 have HS := hide hs
 have HP := hide hp
 obtain ⟨⟨ax, ay⟩, ⟨bx, bY⟩⟩ := s
 obtain ⟨⟨x, y⟩, t⟩ := p
 simp only [Vd.CdS, Vd.Cd, Vd.Sp] at hs hp
 obtain ⟨⟨a1, a2, a3, a4⟩, b1, b2, b3, b4⟩ := hs
 obtain ⟨x1, x2, y1, y2, t1, t2⟩ := hp
 have m2 := mul_bd (a := ay) (b := t) (A := 32768) (B := 1048576) (by omega) (by omega) (by omega) (by omega)
 have m4 := mul_bd (a := bY) (b := t) (A := 32768) (B := 1048576) (by omega) (by omega) (by omega) (by omega)
 simp only [segV, spotV]
 simp only at HB
 by_cases h1 : y < ay * t <;> by_cases h2 : y < bY * t
 all_goals
  have D1 : Hid (Vd.ray (ax, ay) (bx, bY) (x, y) t = if decide (y < ay * t) = decide (y < bY * t) then false else if decide (y < bY * t) = true then decide (0 < Vd.side ((ax, ay), bx, bY) ((x, y), t)) else decide (Vd.side ((ax, ay), bx, bY) ((x, y), t) < 0)) := HB.out
  simp only [h1, h2, decide_true, decide_false] at D1
  go_enter Tryz.func141, Tryz.ntmps141
  go_wp2_with (go_at_call 126; refine (side_any ((ax, ay), (bx, bY)) ((x, y), t) HS.out HP.out _).mono ?_; rintro e w1 ⟨rfl, u1⟩; replace u1 := hide u1)
  go_ret
  first
  | exact ⟨ret_b (by rw [D1.out]; simp), (((Up.refl _).alloc _).alloc _).trans u1.out⟩
  | exact ⟨ret_b (by rw [D1.out]; simp), ((Up.refl _).alloc _).alloc _⟩
theorem placeL_has {s : Vd.Seg} {l : List Vd.Seg} {i : Bool} {p : Vd.Spot} (h : Vd.hasB s p = true) : Vd.placeL (s :: l) i p = 1 := by unfold Vd.placeL; rw [if_pos h]
theorem placeL_not {s : Vd.Seg} {l : List Vd.Seg} {i : Bool} {p : Vd.Spot} (h : Vd.hasB s p = false) : Vd.placeL (s :: l) i p = Vd.placeL l (if Vd.ray s.1 s.2 p.1 p.2 = true then !i else i) p := by conv => lhs; unfold Vd.placeL; rw [if_neg (by rw [h]; simp)]
theorem drop_at {α : Type} {l : List α} {k : Nat} {x : α} (h : l[k]? = some x) : l.drop k = x :: l.drop (k + 1) := by
 obtain ⟨hk, e⟩ := List.getElem?_eq_some_iff.1 h
 rw [List.drop_eq_getElem_cons hk, e]
set_option maxHeartbeats 4000000 in
theorem place_any (v : Value) (r : Ring) (p : Vd.Spot) (w : World) (hv : Rd1 w v r) (hr : r.length ≤ 1048576) (hc : Vd.CdR r) (hp : Vd.Sp p) :
  Calls Tryz.prog 113 #[v, spotV p] w fun e w' => e = .returned (.int .i64 (Vd.place r p)) ∧ Up w w' := by
 have HV := hide hv
 have HC := hide hc
 have HP := hide hp
 obtain ⟨⟨x, y⟩, t⟩ := p
 clear hv hc hp
 simp only [spotV]
 have R0 := hide (new_row (w := w) (o := .cells #[.int .i64 x, .int .i64 y, .int .i64 t] 65) (vs := [.int .i64 x, .int .i64 y, .int .i64 t]) rfl)
 obtain ⟨ao, cap, rfl, -⟩ := HV.out
 go_enter Tryz.func113, Tryz.ntmps113
 go_wp2_with fail
 refine (segments_any _ r _ (HV.out.up ((Up.refl _).alloc _)) hr).mono ?_
 rintro e w1 ⟨sv, rfl, u1, ho⟩
 obtain ⟨sa, sc, es⟩ := own_len ho
 subst es
 have HR := hide (own_rdG (f := segC) (fun _ => rfl) ho)
 have HU : Hid (Up w w1) := ((Up.refl _).alloc _).trans u1
 replace R0 := hide (R0.out.up u1)
 have hl := Vd.segs_len r
 clear ho u1
 go_wp2_with fail
 go_loopw [5, 11] (fun inn i wr => ∃ (k : Nat) (b : Bool), i = .int .i64 k ∧ inn = .bool b ∧ k ≤ (Vd.segs r).length ∧ Hid (Up w1 wr) ∧ Hid (Vd.place r ((x, y), t) = Vd.placeL ((Vd.segs r).drop k) b ((x, y), t))) (fun _ i _ => (Vd.segs r).length - (intOf i).toNat)
 case atStart => exact ⟨0, false, rfl, rfl, Nat.zero_le _, Up.refl _, rfl⟩
 case round =>
  obtain ⟨k, b, rfl, rfl, hk, HU2, HE⟩ := hrel
  by_cases hlt : k < (Vd.segs r).length
  ·obtain ⟨⟨⟨ax, ay⟩, ⟨bx, bY⟩⟩, hs⟩ := Pl.some_of_lt hlt
   obtain ⟨g, cap', ev, c0, c1, c2, c3⟩ := (HR.out.up HU2.out).seg hs
   cases ev
   have HCS := hide (Vd.segs_cd HC.out (Pl.mem_of_some hs))
   rw [drop_at hs] at HE
   have R1 := R0.out.up HU2.out
   have p0 := fun o => (R1.alloc o).cell (i := 0) rfl
   have p1 := fun o => (R1.alloc o).cell (i := 1) rfl
   have p2 := fun o => (R1.alloc o).cell (i := 2) rfl
   have R2 := hide (fun o => R1.alloc o)
   simp only at c0 c1 c2 c3
   clear hs R1
   cases hh : Vd.hasB ((ax, ay), (bx, bY)) ((x, y), t)
   ·have HH := hide hh
    have HE2 := hide (HE.out.trans (placeL_not hh))
    clear hh
    go_wp2_with fail
    refine (has_any ((ax, ay), (bx, bY)) ((x, y), t) HCS.out HP.out _).mono ?_
    rintro e w2 ⟨rfl, u2⟩
    obtain ⟨f0, f1⟩ := bcell u2
    rw [HH.out]
    have U2 := hide u2
    have q0 := u2.cell (p0 _)
    have q1 := u2.cell (p1 _)
    have q2 := u2.cell (p2 _)
    clear u2 p0 p1 p2
    go_wp2_with fail
    refine (ray_any ((ax, ay), (bx, bY)) ((x, y), t) HCS.out HP.out _).mono ?_
    rintro e w3 ⟨rfl, u3⟩
    have U3 : Hid (Up w1 w3) := ((HU2.out.alloc _).trans U2.out).trans u3
    cases hq : Vd.ray (ax, ay) (bx, bY) (x, y) t
    all_goals
     rw [hq] at HE2
     clear u3 q0 q1 q2 f0 f1
     go_wp2
     go_roundw
     case rel => exact ⟨k + 1, _, by go_num, rfl, by omega, U3, HE2.out⟩
     case measure => simp [intOf]; omega
   ·have HH := hide hh
    have HE2 := hide (HE.out.trans (placeL_has hh))
    clear hh
    go_wp2_with fail
    refine (has_any ((ax, ay), (bx, bY)) ((x, y), t) HCS.out HP.out _).mono ?_
    rintro e w2 ⟨rfl, u2⟩
    rw [HH.out]
    replace u2 := hide u2
    go_wp2
    go_ret
    exact ⟨ret_i HE2.out.symm, (HU.out.trans (HU2.out.alloc _)).trans u2.out⟩
  ·have : k = (Vd.segs r).length := by omega
   subst this
   rw [List.drop_length] at HE
   cases b
   all_goals
    go_wp2
    go_ret
    exact ⟨ret_i HE.out.symm, HU.out.trans HU2.out⟩
end Go.Proofs.YtcclepohmhdpbabGreatDoor
