import Derived.Test.YtcclepohmhdpbabGreatDoorApB
namespace Go.Proofs.YtcclepohmhdpbabGreatDoor
set_option linter.all false
open Go.RowKit Go.Deep
theorem foldl_take_succ {α β : Type} (f : β → α → β) (z : β) {l : List α} {k : Nat} {x : α} (h : l[k]? = some x) : (l.take (k + 1)).foldl f z = f ((l.take k).foldl f z) x := by
 rw [Pl.take_one h, List.foldl_append]; rfl
theorem back3 {w : World} {b : Nat} {t : TypeId} {x y z : Value} (h : VRow w b t [x, y, z]) : (∀ u, (w.setCell ⟨b, 0, none⟩ u).cell? ⟨b, 0, none⟩ = some u) ∧ (∀ u v, ((w.setCell ⟨b, 0, none⟩ u).setCell ⟨b, 1, none⟩ v).cell? ⟨b, 1, none⟩ = some v) ∧ (∀ u v r, (((w.setCell ⟨b, 0, none⟩ u).setCell ⟨b, 1, none⟩ v).setCell ⟨b, 2, none⟩ r).cell? ⟨b, 2, none⟩ = some r) :=
 ⟨fun u => (h.set 0 u).cell (i := 0) rfl, fun u v => ((h.set 0 u).set 1 v).cell (i := 1) rfl, fun u v r => (((h.set 0 u).set 1 v).set 2 r).cell (i := 2) rfl⟩
structure NB (w wr : World) (p : Vd.Spot) (u : Pnt) : Prop where
 up : Up w wr
 p0 : VRow wr w.heap.size 65 [.int .i64 p.1.1, .int .i64 p.1.2, .int .i64 p.2]
 u0 : VRow wr (w.heap.size + 1) 133 [.int .i64 u.1, .int .i64 u.2]
 r0 : VRow wr (w.heap.size + 1 + 1) 65 [.int .i64 0, .int .i64 0, .int .i64 0]
theorem NB.keep {w wr w2 : World} {p : Vd.Spot} {u : Pnt} (h : NB w wr p u) (k : Up wr w2) : NB w w2 p u := ⟨h.up.trans k, h.p0.up k, h.u0.up k, h.r0.up k⟩
set_option maxRecDepth 8000 in
set_option maxHeartbeats 4000000 in
theorem near_any (b : Nat) (ov ev bv : Value) (both : List Vd.Seg) (p : Vd.Spot) (u : Pnt) (w : World) (hb : VRow w b 96 [ov, ev, bv]) (hv : RdSeg w bv both) (hl : both.length ≤ 1073741824) (hc : ∀ s ∈ both, Vd.CdS s) (hp : Mp p) (hu : Bdd 65536 u) :
  Calls Tryz.prog 106 #[.pointer (some ⟨b, 0, none⟩), spotV p, ptV u] w fun e w' => e = .returned (spotV (Vd.near both p u)) ∧ Up w w' := by
 have HE : Hid (Vd.near both p u = Vd.nearS p u (both.foldl (Vd.partF p u) 1)) := rfl
 have HP := hide hp
 have HU0 := hide hu
 have HV := hide hv
 have HC := hide hc
 have HSt : Hid (∀ (k : Nat) (s : Vd.Seg), both[k]? = some s → (both.take (k + 1)).foldl (Vd.partF p u) 1 = if (both.take k).foldl (Vd.partF p u) 1 < Vd.partsTo p u s then Vd.partsTo p u s else (both.take k).foldl (Vd.partF p u) 1) := fun k s h => by rw [foldl_take_succ _ _ h]; rfl
 have HB : Hid (∀ s ∈ both, 1 ≤ Vd.partsTo p u s ∧ Vd.partsTo p u s ≤ 17179869185) := fun s hs => partsTo_bd hp hu (hc s hs)
 have HPT : Hid (∀ s ∈ both, ∀ w, Calls Tryz.prog 135 #[spotV p, ptV u, segV s] w fun e w' => e = .returned (.int .i64 (Vd.partsTo p u s)) ∧ Up w w') := fun s hs w => partsTo_any p u s hp hu (hc s hs) w
 have HF0 : Hid ((both.take 0).foldl (Vd.partF p u) 1 = 1) := rfl
 have HF1 : Hid ((both.take both.length).foldl (Vd.partF p u) 1 = both.foldl (Vd.partF p u) 1) := by rw [List.take_length]; exact rfl
 generalize hF : (fun k : Nat => (both.take k).foldl (Vd.partF p u) 1) = F at *
 have HFk : Hid (∀ k, (both.take k).foldl (Vd.partF p u) 1 = F k) := fun k => by rw [← hF]
 simp only [HFk.out] at HSt HF0 HF1
 obtain ⟨ao, cap, rfl, -⟩ := HV.out
 clear hF HFk hv hc
 obtain ⟨⟨x1, x2⟩, ⟨y1, y2⟩, t1, t2⟩ := hp
 obtain ⟨⟨u1', u2'⟩, u3', u4'⟩ := hu
 obtain ⟨⟨x, y⟩, t⟩ := p
 obtain ⟨ux, uy⟩ := u
 simp only at x1 x2 y1 y2 t1 t2 u1' u2' u3' u4'
 have HN : Hid (NB w (((w.alloc (.cells #[.int .i64 x, .int .i64 y, .int .i64 t] 65)).alloc (.cells #[.int .i64 ux, .int .i64 uy] 133)).alloc (.cells #[.int .i64 0, .int .i64 0, .int .i64 0] 65)) ((x, y), t) (ux, uy)) := by
  refine ⟨((Up.refl _).alloc _).alloc _ |>.alloc _, ?_, ?_, ?_⟩
  ·exact ((new_row (vs := [_, _, _]) rfl).alloc _).alloc _
  ·have := (new_row (w := w.alloc (.cells #[.int .i64 x, .int .i64 y, .int .i64 t] 65)) (o := .cells #[.int .i64 ux, .int .i64 uy] 133) (vs := [_, _]) rfl).alloc (.cells #[.int .i64 0, .int .i64 0, .int .i64 0] 65)
   simpa using this
  ·have := new_row (w := (w.alloc (.cells #[.int .i64 x, .int .i64 y, .int .i64 t] 65)).alloc (.cells #[.int .i64 ux, .int .i64 uy] 133)) (o := .cells #[.int .i64 0, .int .i64 0, .int .i64 0] 65) (vs := [_, _, _]) rfl
   simpa using this
 have b2 := HN.out.up.cell (hb.cell (i := 2) rfl)
 simp only [spotV, ptV, segV] at *
 go_enter Tryz.func106, Tryz.ntmps106
 go_wp2
 go_loopw [7, 16] (fun nv i wr => ∃ (k : Nat) (n : Int), i = .int .i64 k ∧ nv = .int .i64 n ∧ k ≤ both.length ∧ 1 ≤ n ∧ n ≤ 17179869185 ∧ Hid (NB w wr ((x, y), t) (ux, uy)) ∧ Hid (F k = n)) (fun _ i _ => both.length - (intOf i).toNat)
 case atStart => exact ⟨0, 1, rfl, rfl, Nat.zero_le _, by omega, by omega, HN, HF0⟩
 case round =>
  clear b2 HN
  obtain ⟨k, n, rfl, rfl, hk, hn1, hn2, HN, HFk⟩ := hrel
  have p0 := HN.out.p0.cell (i := 0) rfl
  have p1 := HN.out.p0.cell (i := 1) rfl
  have p2 := HN.out.p0.cell (i := 2) rfl
  have q0 := HN.out.u0.cell (i := 0) rfl
  have q1 := HN.out.u0.cell (i := 1) rfl
  simp only at p0 p1 p2 q0 q1
  by_cases hlt : k < both.length
  ·obtain ⟨s, hs⟩ := Pl.some_of_lt hlt
   obtain ⟨b', cap', e', c0, c1, c2, c3⟩ := HV.out.seg hs
   have HK := hide (HPT.out s (Pl.mem_of_some hs))
   have HSk := hide (HSt.out k s hs)
   have HBk := HB.out s (Pl.mem_of_some hs)
   cases e'
   have d0 := HN.out.up.cell c0
   have d1 := HN.out.up.cell c1
   have d2 := HN.out.up.cell c2
   have d3 := HN.out.up.cell c3
   obtain ⟨⟨ax, ay⟩, ⟨bx, bY⟩⟩ := s
   generalize Vd.partsTo ((x, y), t) (ux, uy) ((ax, ay), bx, bY) = N at *
   simp only at d0 d1 d2 d3 HK
   have i3 : (0 : Int) ≤ (k : Int) := by omega
   have i4 : (k : Int) < (both.length : Int) := by omega
   have e0 := fun o => ((Up.refl wr).alloc o).cell p0
   have e1 := fun o => ((Up.refl wr).alloc o).cell p1
   have e2 := fun o => ((Up.refl wr).alloc o).cell p2
   have e3 := fun o => ((Up.refl wr).alloc o).cell q0
   have e4 := fun o => ((Up.refl wr).alloc o).cell q1
   clear c0 c1 c2 c3 hs p0 p1 p2 q0 q1
   go_wp2_with fail
   refine (HK.out _).mono ?_
   rintro e w2 ⟨rfl, hz⟩
   have HN2 := hide (HN.out.keep (((Up.refl _).alloc _).trans hz))
   clear hz d0 d1 d2 d3 e0 e1 e2 e3 e4 HK
   by_cases hlN : n < N
   ·have HF2 : Hid (F (k + 1) = N) := by rw [HSk.out, HFk.out, if_pos hlN]; exact rfl
    go_wp2
    go_roundw
    case rel => exact ⟨k + 1, N, by go_num, rfl, by omega, by omega, by omega, HN2, HF2⟩
    case measure => simp [intOf]; omega
   ·have HF2 : Hid (F (k + 1) = n) := by rw [HSk.out, HFk.out, if_neg hlN]; exact rfl
    go_wp2
    go_roundw
    case rel => exact ⟨k + 1, n, by go_num, rfl, by omega, by omega, by omega, HN2, HF2⟩
    case measure => simp [intOf]; omega
  ·have HR : Hid (Vd.near both ((x, y), t) (ux, uy) = ((x * n + t * ux, y * n + t * uy), t * n)) := by
    have hk2 : k = both.length := by omega
    have := HFk.out
    rw [hk2, HF1.out] at this
    rw [HE.out, this]; exact rfl
   have m1 := mul_bd (a := x) (b := n) (A := 65536) (B := 17179869185) (by omega) (by omega) (by omega) (by omega)
   have m2 := mul_bd (a := y) (b := n) (A := 65536) (B := 17179869185) (by omega) (by omega) (by omega) (by omega)
   have m3 := mul_bd (a := t) (b := n) (A := 2) (B := 17179869185) (by omega) (by omega) (by omega) (by omega)
   have m4 := mul_bd (a := t) (b := ux) (A := 2) (B := 65536) (by omega) (by omega) (by omega) (by omega)
   have m5 := mul_bd (a := t) (b := uy) (A := 2) (B := 65536) (by omega) (by omega) (by omega) (by omega)
   have k1 : wrap64 (x * n) = x * n := w64 (by omega) (by omega)
   have k2 : wrap64 (y * n) = y * n := w64 (by omega) (by omega)
   have k3 : wrap64 (t * n) = t * n := w64 (by omega) (by omega)
   have k4 : wrap64 (t * ux) = t * ux := w64 (by omega) (by omega)
   have k5 : wrap64 (t * uy) = t * uy := w64 (by omega) (by omega)
   have r0 := HN.out.r0.cell (i := 0) rfl
   have r1 := HN.out.r0.cell (i := 1) rfl
   have r2 := HN.out.r0.cell (i := 2) rfl
   have rz := fun i => HN.out.r0.frozen i
   obtain ⟨f0, f1, f2⟩ := back3 HN.out.r0
   go_wp2
   refine bodyPost_ret (v := .agg #[.int .i64 (x * n + t * ux), .int .i64 (y * n + t * uy), .int .i64 (t * n)]) (by simp [results, Tryz.results106, go_sem, f0, f1, f2]) rfl ⟨by rw [HR.out], ?_⟩
   repeat (refine Up.setCell ?_ (by simp <;> omega) _)
   exact HN.out.up
end Go.Proofs.YtcclepohmhdpbabGreatDoor
