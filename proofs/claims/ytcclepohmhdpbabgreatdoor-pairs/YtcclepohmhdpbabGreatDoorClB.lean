import Derived.Test.YtcclepohmhdpbabGreatDoorWalkB
import Derived.Test.YtcclepohmhdpbabGreatDoorWalkP
/- THE WALKS: package plane: Segments, meetsRay. -/
namespace Go.Proofs.YtcclepohmhdpbabGreatDoor
set_option linter.all false
open Go.RowKit Go.Deep

theorem wrap_id {x : Int} (h1 : -9223372036854775808 ≤ x) (h2 : x ≤ 9223372036854775807) : IntKind.i64.wrap x = x := by
  simp [IntKind.wrap, IntKind.bits, IntKind.signed]; omega
/-! ### lists of what is some cells wide -/
def flatG {α : Type} (f : α → List Value) (l : List α) : List Value := l.flatMap f
theorem flatG_append {α : Type} (f : α → List Value) (a b : List α) : flatG f (a ++ b) = flatG f a ++ flatG f b := by simp [flatG]
theorem flatG_at {α : Type} {f : α → List Value} {n : Nat} (hf : ∀ x, (f x).length = n) : ∀ (l : List α) (i : Nat) (x : α) (j : Nat) (u : Value), l[i]? = some x → (f x)[j]? = some u → (flatG f l)[i * n + j]? = some u := by
  intro l
  induction l with
  | nil => intro i x j u h; simp at h
  | cons a t ih =>
    intro i x j u h hu
    have hj : j < n := by rw [← hf x]; exact Pl.lt_of_some hu
    show (f a ++ flatG f t)[i * n + j]? = some u
    cases i with
    | zero => simp at h; subst h; rw [List.getElem?_append_left (by rw [hf]; omega)]; simpa using hu
    | succ i =>
      rw [List.getElem?_append_right (by rw [hf, Nat.succ_mul]; omega), hf, show (i + 1) * n + j - n = i * n + j by rw [Nat.succ_mul]; omega]
      exact ih i x j u (by simpa using h) hu
/-- A list reads as these. -/
def RdG {α : Type} (n : Nat) (f : α → List Value) (w : World) (v : Value) (l : List α) : Prop :=
  ∃ ao cap, v = .slice ao l.length cap ∧ ∀ i x, l[i]? = some x → ∃ b, ao = some ⟨b, 0, none⟩ ∧ ∀ j u, (f x)[j]? = some u → w.cell? ⟨b, i * n + j, none⟩ = some u
theorem RdG.up {α : Type} {n : Nat} {f : α → List Value} {w w' : World} {v : Value} {l : List α} (h : RdG n f w v l) (k : Up w w') : RdG n f w' v l := by
  obtain ⟨ao, cap, e, h⟩ := h
  exact ⟨ao, cap, e, fun i x hx => by obtain ⟨b, e1, e2⟩ := h i x hx; exact ⟨b, e1, fun j u hu => k.cell (e2 j u hu)⟩⟩
theorem own_rdG {α : Type} {n : Nat} {f : α → List Value} (hf : ∀ x, (f x).length = n) {w : World} {base : Nat} {e : TypeId} {v : Value} {l : List α} (h : w.ownsRow base e n v l.length (flatG f l)) : RdG n f w v l := by
  obtain ⟨ao, cap, ev⟩ := own_len h
  refine ⟨ao, cap, ev, fun i x hx => ?_⟩
  obtain ⟨g, cap', e', hc⟩ := own_cell h (by have := Pl.lt_of_some hx; omega)
  rw [ev] at e'
  cases e'
  exact ⟨g, rfl, fun j u hu => hc _ _ (flatG_at hf l i x j u hx hu)⟩
def segC (s : Vd.Seg) : List Value := [.int .i64 s.1.1, .int .i64 s.1.2, .int .i64 s.2.1, .int .i64 s.2.2]
def spotC (p : Vd.Spot) : List Value := [.int .i64 p.1.1, .int .i64 p.1.2, .int .i64 p.2]
def ptC (p : Pnt) : List Value := [.int .i64 p.1, .int .i64 p.2]
def intC (n : Nat) : List Value := [.int .i64 n]
abbrev RdSeg := RdG 4 segC
abbrev RdSpot := RdG 3 spotC
abbrev RdInt := RdG 1 intC
theorem RdG.seg {w : World} {v : Value} {l : List Vd.Seg} (h : RdSeg w v l) {i : Nat} {s : Vd.Seg} (hs : l[i]? = some s) : ∃ b cap, v = .slice (some ⟨b, 0, none⟩) l.length cap ∧ w.cell? ⟨b, i * 4, none⟩ = some (.int .i64 s.1.1) ∧ w.cell? ⟨b, i * 4 + 1, none⟩ = some (.int .i64 s.1.2) ∧ w.cell? ⟨b, i * 4 + 2, none⟩ = some (.int .i64 s.2.1) ∧ w.cell? ⟨b, i * 4 + 3, none⟩ = some (.int .i64 s.2.2) := by
  obtain ⟨ao, cap, e, h⟩ := h
  obtain ⟨b, rfl, hc⟩ := h i s hs
  exact ⟨b, cap, e, hc 0 _ rfl, hc 1 _ rfl, hc 2 _ rfl, hc 3 _ rfl⟩
theorem RdG.spot {w : World} {v : Value} {l : List Vd.Spot} (h : RdSpot w v l) {i : Nat} {s : Vd.Spot} (hs : l[i]? = some s) : ∃ b cap, v = .slice (some ⟨b, 0, none⟩) l.length cap ∧ w.cell? ⟨b, i * 3, none⟩ = some (.int .i64 s.1.1) ∧ w.cell? ⟨b, i * 3 + 1, none⟩ = some (.int .i64 s.1.2) ∧ w.cell? ⟨b, i * 3 + 2, none⟩ = some (.int .i64 s.2) := by
  obtain ⟨ao, cap, e, h⟩ := h
  obtain ⟨b, rfl, hc⟩ := h i s hs
  exact ⟨b, cap, e, hc 0 _ rfl, hc 1 _ rfl, hc 2 _ rfl⟩
theorem RdG.int {w : World} {v : Value} {l : List Nat} (h : RdInt w v l) {i : Nat} {s : Nat} (hs : l[i]? = some s) : ∃ b cap, v = .slice (some ⟨b, 0, none⟩) l.length cap ∧ w.cell? ⟨b, i, none⟩ = some (.int .i64 s) := by
  obtain ⟨ao, cap, e, h⟩ := h
  obtain ⟨b, rfl, hc⟩ := h i s hs
  exact ⟨b, cap, e, by have := hc 0 _ rfl; simpa using this⟩
theorem und_segs : Tryz.prog.underlying 93 = some (.slice 98) := by kernel_rfl
theorem info_seg : (Tryz.prog.info? 98).map (fun i => (i.zero, i.size, i.bytes)) = some (some (.agg #[.int .i64 0, .int .i64 0, .int .i64 0, .int .i64 0]), 4, 32) := by kernel_rfl
theorem el_segs : Elem Tryz.prog 93 98 (.agg #[.int .i64 0, .int .i64 0, .int .i64 0, .int .i64 0]) 4 32 := ⟨und_segs, info_seg, rfl, by omega, by omega⟩
theorem segs_take {r : Ring} {k : Nat} {p q : Pnt} (hp : r[k]? = some p) (hq : r[k + 1]? = some q) : (Vd.segs r).take (k + 1) = (Vd.segs r).take k ++ [(p, q)] := Pl.take_one (Vd.segs_at hp hq)

set_option maxHeartbeats 4000000 in
theorem segments_any (v : Value) (r : Ring) (w : World) (hv : Rd1 w v r) (hr : r.length ≤ 1048576) :
    Calls Tryz.prog 99 #[v] w fun e w' => ∃ u, e = .returned u ∧ Up w w' ∧ w'.ownsRow w.heap.size 98 4 u (Vd.segs r).length (flatG segC (Vd.segs r)) := by
  obtain ⟨ao, cap, rfl, hm⟩ := hv
  have HM := hide hm
  clear hm
  go_enter Tryz.func99, Tryz.ntmps99
  go_wp2
  go_loopw [3, 4] (fun sv i wr => ∃ (k : Nat) (u : Value), i = .int .i64 (k + 1 : Nat) ∧ u = sv ∧ k ≤ (Vd.segs r).length ∧ Hid (Up w wr) ∧ Hid (wr.ownsRow w.heap.size 98 4 u k (flatG segC ((Vd.segs r).take k)))) (fun _ i _ => r.length - (intOf i).toNat)
  case atStart => exact ⟨0, _, rfl, rfl, Nat.zero_le _, Up.refl _, World.ownsRow_nil _ _ _ _⟩
  case round =>
    obtain ⟨k, u, rfl, rfl, hk, HU, HO⟩ := hrel
    by_cases hlt : k + 1 < r.length
    · obtain ⟨⟨px, py⟩, hp⟩ := Pl.some_of_lt (show k < r.length by omega)
      obtain ⟨⟨qx, qy⟩, hq⟩ := Pl.some_of_lt hlt
      have HT := hide (segs_take hp hq)
      obtain ⟨b, rfl, c0, c1⟩ := HM.out k _ hp
      obtain ⟨b', e', d0, d1⟩ := HM.out (k + 1) _ hq
      cases e'
      have f0 := HU.out.cell c0
      have f1 := HU.out.cell c1
      have g0 := HU.out.cell d0
      have g1 := HU.out.cell d1
      have f0a := fun o => ((Up.refl wr).alloc o).cell f0
      have f1a := fun o => ((Up.refl wr).alloc o).cell f1
      have g0a := fun o => ((Up.refl wr).alloc o).cell g0
      have g1a := fun o => ((Up.refl wr).alloc o).cell g1
      have HOA := hide (fun o => HO.out.alloc o)
      have hb : Hid (k ≤ 1073741824) := by show _ ≤ _; omega
      have hsz := hide HU.out.size
      have i1 : (0 : Int) ≤ (k : Int) := by omega
      have i2 : (k : Int) < (r.length : Int) := by omega
      have i3 : (k : Int) + 1 < (r.length : Int) := by omega
      have i4 : IntKind.i64.wrap (k : Int) = (k : Int) := wrap_id (by omega) (by omega)
      have i5 : (0 : Int) ≤ (k : Int) + 1 := by omega
      clear c0 c1 d0 d1 hp hq
      go_upto_region 5 with fail
      go_region_law ((refine step_app el_segs rfl (.tmp 11) (.tmp 22) rfl w.heap.size u _ _ (by rfl) (HOA.out _) wr.heap.size (segC ((px, py), (qx, qy))) (by rfl) rfl (heap_alloc_new wr _) (by intro x hx; simp [segC] at hx; rcases hx with rfl | rfl | rfl | rfl <;> rfl) hb.out (by simp; have := hsz.out; omega) ?_; intro g cap w1 hown1 hg1 hat1 hlt1))
      all_goals
        have HO2 := hide hown1
        have HU2 : Hid (Up w w1) := Fr.up (S := fun _ => False) (((Fr.of_up HU.out).alloc _).drew.grown hg1 fun x hx => .inr (own_lt HO.out hx).1) (fun _ _ h => h)
        clear hown1 hg1 hat1 hlt1 f0 f1 g0 g1 f0a f1a g0a g1a
        go_wp2
        go_roundw
        case rel => exact ⟨k + 1, _, by go_num, rfl, by rw [Vd.segs_len]; omega, HU2, by rw [HT.out, flatG_append]; exact HO2⟩
        case measure => simp [intOf]; omega
    · have hk2 : k = (Vd.segs r).length := by rw [Vd.segs_len] at *; omega
      subst hk2
      go_wp2
      go_ret
      exact ⟨_, rfl, HU.out, by have := HO.out; rwa [List.take_length] at this⟩
end Go.Proofs.YtcclepohmhdpbabGreatDoor

/- THE WALKS: package plane: meetsRay, Place. -/
namespace Go.Proofs.YtcclepohmhdpbabGreatDoor
set_option linter.all false
open Go.RowKit Go.Deep

theorem ray_of (s : Vd.Seg) (p : Vd.Spot) : Vd.ray s.1 s.2 p.1 p.2 = if decide (p.1.2 < s.1.2 * p.2) = decide (p.1.2 < s.2.2 * p.2) then false else if decide (p.1.2 < s.2.2 * p.2) = true then decide (0 < Vd.side s p) else decide (Vd.side s p < 0) := by
  unfold Vd.ray Vd.side
  simp only [decide_eq_true_eq]
set_option maxHeartbeats 2000000 in
theorem ray_any (s : Vd.Seg) (p : Vd.Spot) (hs : Vd.CdS s) (hp : Vd.Sp p) (w : World) : Calls Tryz.prog 141 #[segV s, spotV p] w fun e w' => e = .returned (.bool (Vd.ray s.1 s.2 p.1 p.2)) ∧ Up w w' := by
  have HB := hide (ray_of s p)
  have HS := hide hs
  have HP := hide hp
  obtain ⟨⟨ax, ay⟩, ⟨bx, bY⟩⟩ := s
  obtain ⟨⟨x, y⟩, t⟩ := p
  simp only [Vd.CdS, Vd.Cd, Vd.Sp] at hs hp
  obtain ⟨⟨a1, a2, a3, a4⟩, b1, b2, b3, b4⟩ := hs
  obtain ⟨x1, x2, y1, y2, t1, t2⟩ := hp
  have m2 := mul_bd (a := ay) (b := t) (A := 32768) (B := 1048576) (by omega) (by omega) (by omega) (by omega)
  have m4 := mul_bd (a := bY) (b := t) (A := 32768) (B := 1048576) (by omega) (by omega) (by omega) (by omega)
  simp only [segV, spotV]
  simp only at HB
  by_cases h1 : y < ay * t <;> by_cases h2 : y < bY * t
  all_goals
    have D1 : Hid (Vd.ray (ax, ay) (bx, bY) (x, y) t = if decide (y < ay * t) = decide (y < bY * t) then false else if decide (y < bY * t) = true then decide (0 < Vd.side ((ax, ay), bx, bY) ((x, y), t)) else decide (Vd.side ((ax, ay), bx, bY) ((x, y), t) < 0)) := HB.out
    simp only [h1, h2, decide_true, decide_false] at D1
    go_enter Tryz.func141, Tryz.ntmps141
    go_wp2_with (go_at_call 126; refine (side_any ((ax, ay), (bx, bY)) ((x, y), t) HS.out HP.out _).mono ?_; rintro e w1 ⟨rfl, u1⟩; replace u1 := hide u1)
    go_ret
    first
    | exact ⟨ret_b (by rw [D1.out]; simp), (((Up.refl _).alloc _).alloc _).trans u1.out⟩
    | exact ⟨ret_b (by rw [D1.out]; simp), ((Up.refl _).alloc _).alloc _⟩

/-! ### Place -/
theorem placeL_has {s : Vd.Seg} {l : List Vd.Seg} {i : Bool} {p : Vd.Spot} (h : Vd.hasB s p = true) : Vd.placeL (s :: l) i p = 1 := by unfold Vd.placeL; rw [if_pos h]
theorem placeL_not {s : Vd.Seg} {l : List Vd.Seg} {i : Bool} {p : Vd.Spot} (h : Vd.hasB s p = false) : Vd.placeL (s :: l) i p = Vd.placeL l (if Vd.ray s.1 s.2 p.1 p.2 = true then !i else i) p := by conv => lhs; unfold Vd.placeL; rw [if_neg (by rw [h]; simp)]
theorem drop_at {α : Type} {l : List α} {k : Nat} {x : α} (h : l[k]? = some x) : l.drop k = x :: l.drop (k + 1) := by
  obtain ⟨hk, e⟩ := List.getElem?_eq_some_iff.1 h
  rw [List.drop_eq_getElem_cons hk, e]

set_option maxHeartbeats 4000000 in
theorem place_any (v : Value) (r : Ring) (p : Vd.Spot) (w : World) (hv : Rd1 w v r) (hr : r.length ≤ 1048576) (hc : Vd.CdR r) (hp : Vd.Sp p) :
    Calls Tryz.prog 113 #[v, spotV p] w fun e w' => e = .returned (.int .i64 (Vd.place r p)) ∧ Up w w' := by
  have HV := hide hv
  have HC := hide hc
  have HP := hide hp
  obtain ⟨⟨x, y⟩, t⟩ := p
  clear hv hc hp
  simp only [spotV]
  have R0 := hide (new_row (w := w) (o := .cells #[.int .i64 x, .int .i64 y, .int .i64 t] 65) (vs := [.int .i64 x, .int .i64 y, .int .i64 t]) rfl)
  obtain ⟨ao, cap, rfl, -⟩ := HV.out
  go_enter Tryz.func113, Tryz.ntmps113
  go_wp2_with fail
  refine (segments_any _ r _ (HV.out.up ((Up.refl _).alloc _)) hr).mono ?_
  rintro e w1 ⟨sv, rfl, u1, ho⟩
  obtain ⟨sa, sc, es⟩ := own_len ho
  subst es
  have HR := hide (own_rdG (f := segC) (fun _ => rfl) ho)
  have HU : Hid (Up w w1) := ((Up.refl _).alloc _).trans u1
  replace R0 := hide (R0.out.up u1)
  have hl := Vd.segs_len r
  clear ho u1
  go_wp2_with fail
  go_loopw [5, 11] (fun inn i wr => ∃ (k : Nat) (b : Bool), i = .int .i64 k ∧ inn = .bool b ∧ k ≤ (Vd.segs r).length ∧ Hid (Up w1 wr) ∧ Hid (Vd.place r ((x, y), t) = Vd.placeL ((Vd.segs r).drop k) b ((x, y), t))) (fun _ i _ => (Vd.segs r).length - (intOf i).toNat)
  case atStart => exact ⟨0, false, rfl, rfl, Nat.zero_le _, Up.refl _, rfl⟩
  case round =>
    obtain ⟨k, b, rfl, rfl, hk, HU2, HE⟩ := hrel
    by_cases hlt : k < (Vd.segs r).length
    · obtain ⟨⟨⟨ax, ay⟩, ⟨bx, bY⟩⟩, hs⟩ := Pl.some_of_lt hlt
      obtain ⟨g, cap', ev, c0, c1, c2, c3⟩ := (HR.out.up HU2.out).seg hs
      cases ev
      have HCS := hide (Vd.segs_cd HC.out (Pl.mem_of_some hs))
      rw [drop_at hs] at HE
      have R1 := R0.out.up HU2.out
      have p0 := fun o => (R1.alloc o).cell (i := 0) rfl
      have p1 := fun o => (R1.alloc o).cell (i := 1) rfl
      have p2 := fun o => (R1.alloc o).cell (i := 2) rfl
      have R2 := hide (fun o => R1.alloc o)
      simp only at c0 c1 c2 c3
      clear hs R1
      cases hh : Vd.hasB ((ax, ay), (bx, bY)) ((x, y), t)
      · have HH := hide hh
        have HE2 := hide (HE.out.trans (placeL_not hh))
        clear hh
        go_wp2_with fail
        refine (has_any ((ax, ay), (bx, bY)) ((x, y), t) HCS.out HP.out _).mono ?_
        rintro e w2 ⟨rfl, u2⟩
        obtain ⟨f0, f1⟩ := bcell u2
        rw [HH.out]
        have U2 := hide u2
        have q0 := u2.cell (p0 _)
        have q1 := u2.cell (p1 _)
        have q2 := u2.cell (p2 _)
        clear u2 p0 p1 p2
        go_wp2_with fail
        refine (ray_any ((ax, ay), (bx, bY)) ((x, y), t) HCS.out HP.out _).mono ?_
        rintro e w3 ⟨rfl, u3⟩
        have U3 : Hid (Up w1 w3) := ((HU2.out.alloc _).trans U2.out).trans u3
        cases hq : Vd.ray (ax, ay) (bx, bY) (x, y) t
        all_goals
          rw [hq] at HE2
          clear u3 q0 q1 q2 f0 f1
          go_wp2
          go_roundw
          case rel => exact ⟨k + 1, _, by go_num, rfl, by omega, U3, HE2.out⟩
          case measure => simp [intOf]; omega
      · have HH := hide hh
        have HE2 := hide (HE.out.trans (placeL_has hh))
        clear hh
        go_wp2_with fail
        refine (has_any ((ax, ay), (bx, bY)) ((x, y), t) HCS.out HP.out _).mono ?_
        rintro e w2 ⟨rfl, u2⟩
        rw [HH.out]
        replace u2 := hide u2
        go_wp2
        go_ret
        exact ⟨ret_i HE2.out.symm, (HU.out.trans (HU2.out.alloc _)).trans u2.out⟩
    · have : k = (Vd.segs r).length := by omega
      subst this
      rw [List.drop_length] at HE
      cases b
      all_goals
        go_wp2
        go_ret
        exact ⟨ret_i HE.out.symm, HU.out.trans HU2.out⟩
end Go.Proofs.YtcclepohmhdpbabGreatDoor

/- THE WALKS: package plane: nextCut. -/
namespace Go.Proofs.YtcclepohmhdpbabGreatDoor
set_option linter.all false
open Go.RowKit Go.Deep

theorem before_true {p q : Pnt} (h : Vd.bef p q) (w : World) : Calls Tryz.prog 128 #[ptV p, ptV q] w fun e w' => e = .returned (.bool true) ∧ Up w w' := by
  have := before_any p q w; rwa [decide_eq_true h] at this
theorem before_false {p q : Pnt} (h : ¬ Vd.bef p q) (w : World) : Calls Tryz.prog 128 #[ptV p, ptV q] w fun e w' => e = .returned (.bool false) ∧ Up w w' := by
  have := before_any p q w; rwa [decide_eq_false h] at this
theorem has_is {s : Vd.Seg} {p : Vd.Spot} {b : Bool} (h : Vd.hasB s p = b) (hs : Vd.CdS s) (hp : Vd.Sp p) (w : World) : Calls Tryz.prog 104 #[segV s, spotV p] w fun e w' => e = .returned (.bool b) ∧ Up w w' := by
  have := has_any s p hs hp w; rwa [h] at this

/-- what nextCut holds. -/
structure NC (w wr : World) (s : Vd.Seg) (f tu : Pnt) : Prop where
  up : Up w wr
  s0 : VRow wr w.heap.size 98 [.int .i64 s.1.1, .int .i64 s.1.2, .int .i64 s.2.1, .int .i64 s.2.2]
  f0 : VRow wr (w.heap.size + 1) 48 [.int .i64 f.1, .int .i64 f.2]
  r0 : VRow wr (w.heap.size + 2) 48 [.int .i64 0, .int .i64 0]
  t0 : VRow wr (w.heap.size + 3) 48 [.int .i64 tu.1, .int .i64 tu.2]
theorem NC.keep {w wr w2 : World} {s : Vd.Seg} {f tu : Pnt} (h : NC w wr s f tu) (k : Up wr w2) : NC w w2 s f tu :=
  ⟨h.up.trans k, h.s0.up k, h.f0.up k, h.r0.up k, h.t0.up k⟩
theorem NC.set {w wr : World} {s : Vd.Seg} {f tu : Pnt} (h : NC w wr s f tu) (p : Pnt) : NC w ((wr.setCell ⟨w.heap.size + 3, 0, none⟩ (.int .i64 p.1)).setCell ⟨w.heap.size + 3, 1, none⟩ (.int .i64 p.2)) s f p :=
  ⟨(h.up.setCell (by show w.heap.size ≤ w.heap.size + 3; omega) _).setCell (by show w.heap.size ≤ w.heap.size + 3; omega) _, (h.s0.setOther (by show w.heap.size ≠ w.heap.size + 3; omega) _).setOther (by show w.heap.size ≠ w.heap.size + 3; omega) _,
    (h.f0.setOther (by show w.heap.size + 1 ≠ w.heap.size + 3; omega) _).setOther (by show w.heap.size + 1 ≠ w.heap.size + 3; omega) _, (h.r0.setOther (by show w.heap.size + 2 ≠ w.heap.size + 3; omega) _).setOther (by show w.heap.size + 2 ≠ w.heap.size + 3; omega) _, row_set2 h.t0 _ _⟩
theorem NC.start (w : World) (ax ay bx bY fx fy : Int) : NC w ((((w.alloc (.cells #[.int .i64 ax, .int .i64 ay, .int .i64 bx, .int .i64 bY] 98)).alloc (.cells #[.int .i64 fx, .int .i64 fy] 48)).alloc (.cells #[.int .i64 0, .int .i64 0] 48)).alloc (.cells #[.int .i64 bx, .int .i64 bY] 48)) ((ax, ay), (bx, bY)) (fx, fy) (bx, bY) := by
  refine ⟨((((Up.refl _).alloc _).alloc _).alloc _).alloc _, ?_, ?_, ?_, ?_⟩
  · exact (((new_row (vs := [_, _, _, _]) rfl).alloc _).alloc _).alloc _
  · have := ((new_row (w := w.alloc (.cells #[.int .i64 ax, .int .i64 ay, .int .i64 bx, .int .i64 bY] 98)) (o := .cells #[.int .i64 fx, .int .i64 fy] 48) (vs := [_, _]) rfl).alloc (.cells #[.int .i64 0, .int .i64 0] 48)).alloc (.cells #[.int .i64 bx, .int .i64 bY] 48)
    simpa using this
  · have := (new_row (w := (w.alloc (.cells #[.int .i64 ax, .int .i64 ay, .int .i64 bx, .int .i64 bY] 98)).alloc (.cells #[.int .i64 fx, .int .i64 fy] 48)) (o := .cells #[.int .i64 0, .int .i64 0] 48) (vs := [_, _]) rfl).alloc (.cells #[.int .i64 bx, .int .i64 bY] 48)
    simpa using this
  · have := (new_row (w := ((w.alloc (.cells #[.int .i64 ax, .int .i64 ay, .int .i64 bx, .int .i64 bY] 98)).alloc (.cells #[.int .i64 fx, .int .i64 fy] 48)).alloc (.cells #[.int .i64 0, .int .i64 0] 48)) (o := .cells #[.int .i64 bx, .int .i64 bY] 48) (vs := [_, _]) rfl)
    simpa using this
theorem cutF_pos {s : Vd.Seg} {f tu p : Pnt} (h1 : Vd.bef f p) (h2 : Vd.bef p tu) (h3 : Vd.hasB s (Vd.at1 p) = true) : Vd.cutF s f tu p = p := if_pos ⟨h1, h2, of_decide_eq_true h3⟩
theorem cutF_neg {s : Vd.Seg} {f tu p : Pnt} (h : ¬ (Vd.bef f p ∧ Vd.bef p tu ∧ Vd.hasB s (Vd.at1 p) = true)) : Vd.cutF s f tu p = tu := if_neg fun k => h ⟨k.1, k.2.1, decide_eq_true k.2.2⟩
theorem fold_snoc {s : Vd.Seg} {f t0 : Pnt} {l : List Pnt} {p : Pnt} : (l ++ [p]).foldl (Vd.cutF s f) t0 = Vd.cutF s f (l.foldl (Vd.cutF s f) t0) p := by rw [List.foldl_append]; rfl
theorem flat_take {rings : Poly} {k : Nat} {r : Ring} (h : rings[k]? = some r) : (rings.take (k + 1)).flatten = (rings.take k).flatten ++ r := by rw [Pl.take_one h, List.flatten_append]; simp

set_option maxHeartbeats 8000000 in
theorem nextCut_any (s : Vd.Seg) (f : Pnt) (v : Value) (rings : Poly) (w : World) (hs : Vd.CdS s) (hv : Rd2 w v rings) (hl : rings.length ≤ 1048576) (hl2 : ∀ r ∈ rings, r.length ≤ 1048576) (hc : Vd.CdL rings) :
    Calls Tryz.prog 102 #[segV s, ptV f, v] w fun e w' => e = .returned (ptV (Vd.nextCut s f rings)) ∧ Up w w' := by
  obtain ⟨⟨ax, ay⟩, ⟨bx, bY⟩⟩ := s
  obtain ⟨fx, fy⟩ := f
  have HS := hide hs
  have HC := hide hc
  have HL := hide hl2
  obtain ⟨ao, cap, rfl, hm⟩ := hv
  have HM := hide hm
  have HN := hide (NC.start w ax ay bx bY fx fy)
  clear hs hc hl2 hm
  simp only [segV, ptV]
  go_enter Tryz.func102, Tryz.ntmps102
  go_wp2_with fail
  go_loopw [16] (fun i wr => ∃ (k : Nat) (tu : Pnt), i = .int .i64 k ∧ k ≤ rings.length ∧ Hid (NC w wr ((ax, ay), (bx, bY)) (fx, fy) tu) ∧ Hid (tu = (rings.take k).flatten.foldl (Vd.cutF ((ax, ay), (bx, bY)) (fx, fy)) (bx, bY))) (fun i _ => rings.length - (intOf i).toNat)
  case atStart => exact ⟨0, (bx, bY), rfl, Nat.zero_le _, HN, rfl⟩
  case round =>
    obtain ⟨k, tu, rfl, hk, HK, HT⟩ := hrel
    by_cases hlt : k < rings.length
    · obtain ⟨r, hr⟩ := Pl.some_of_lt hlt
      obtain ⟨b, u, rfl, cu, hu⟩ := HM.out k r hr
      obtain ⟨ao2, cap2, rfl, hp⟩ := hu
      have HP := hide hp
      have cu2 := HK.out.up.cell cu
      have hrl := HL.out r (Pl.mem_of_some hr)
      have HCR := hide (HC.out r (Pl.mem_of_some hr))
      have HF := hide (flat_take hr)
      clear hr cu hp
      go_wp2_with fail
      go_loopw [22] (fun i wr => ∃ (q : Nat) (tu : Pnt), i = .int .i64 q ∧ q ≤ r.length ∧ Hid (NC w wr ((ax, ay), (bx, bY)) (fx, fy) tu) ∧ Hid (tu = ((rings.take k).flatten ++ r.take q).foldl (Vd.cutF ((ax, ay), (bx, bY)) (fx, fy)) (bx, bY))) (fun i _ => r.length - (intOf i).toNat)
      case atStart => exact ⟨0, tu, rfl, Nat.zero_le _, HK, by rw [List.take_zero, List.append_nil]; exact HT⟩
      case round =>
        clear HK HT cu2
        obtain ⟨q, ⟨tx, ty⟩, rfl, hq, HK, HT⟩ := hrel
        by_cases hlq : q < r.length
        · obtain ⟨⟨px, py⟩, hxy⟩ := Pl.some_of_lt hlq
          obtain ⟨b2, rfl, cx, cy⟩ := HP.out q (px, py) hxy
          have cx' := HK.out.up.cell cx
          have cy' := HK.out.up.cell cy
          dsimp only at cx' cy'
          have HCP := hide (HCR.out _ (Pl.mem_of_some hxy))
          have HX : Hid ((((rings.take k).flatten ++ r.take (q + 1)).foldl (Vd.cutF ((ax, ay), (bx, bY)) (fx, fy)) (bx, bY)) = Vd.cutF ((ax, ay), (bx, bY)) (fx, fy) (tx, ty) (px, py)) := by
            rw [Pl.take_one hxy, ← List.append_assoc, fold_snoc, ← HT.out]; exact rfl
          clear hxy cx cy HT
          go_upto_region 8 with fail
          have HW := hide (HK.out.keep ((Up.refl wr).alloc (.cells #[.int .i64 px, .int .i64 py] 48)))
          have RP := hide (new_row (w := wr) (o := .cells #[.int .i64 px, .int .i64 py] 48) (vs := [.int .i64 px, .int .i64 py]) rfl)
          generalize wr.alloc (.cells #[.int .i64 px, .int .i64 py] 48) = W at *
          have s0 := HW.out.s0.gr (i := 0) rfl
          have s1 := HW.out.s0.gr (i := 1) rfl
          have s2 := HW.out.s0.gr (i := 2) rfl
          have s3 := HW.out.s0.gr (i := 3) rfl
          have f0 := HW.out.f0.gr (i := 0) rfl
          have f1 := HW.out.f0.gr (i := 1) rfl
          have t0 := HW.out.t0.gr (i := 0) rfl
          have t1 := HW.out.t0.gr (i := 1) rfl
          have p0 := RP.out.gr (i := 0) rfl
          have p1 := RP.out.gr (i := 1) rfl
          clear cx' cy'
          by_cases h1 : Vd.bef (fx, fy) (px, py)
          · by_cases h2 : Vd.bef (px, py) (tx, ty)
            · cases h3 : Vd.hasB ((ax, ay), (bx, bY)) (Vd.at1 (px, py))
              · skip
                have D1 := hide h1
                have D2 := hide h2
                have D3 := hide h3
                have HY := hide (HX.out.trans (cutF_neg (fun x => by rw [h3] at x; exact absurd x.2.2 (by simp))))
                clear h1 h2 h3
                refine wp_region_up (by kernel_rfl) (by kernel_rfl) ?_
                repeat (first | go_big_quiet_step ((first | (go_at_call_of 128 (Value.agg #[.int .i64 fx, .int .i64 fy]); exact Calls.up_of (before_true D1.out _)) | (go_at_call 128; exact Calls.up_of (before_true D2.out _)) | (go_at_call 127; exact Calls.up_of (at_any (px, py) _)) | (go_at_call 104; exact Calls.up_of (has_is D3.out HS.out (Vd.at1_sp HCP.out) _)))))
                refine wpQuiet_nil ?_
                rintro _ ⟨⟨w2, u2⟩, rfl⟩
                have HK2 := hide (HW.out.keep u2)
                clear u2 s0 s1 s2 s3 f0 f1 t0 t1 p0 p1
                go_wp2
                go_roundw
                case rel => exact ⟨q + 1, (tx, ty), by go_num, by omega, HK2, HY.out.symm⟩
                case measure => simp [intOf]; omega
              · skip
                have D1 := hide h1
                have D2 := hide h2
                have D3 := hide h3
                have HY := hide (HX.out.trans (cutF_pos h1 h2 h3))
                clear h1 h2 h3
                refine wp_region_up (by kernel_rfl) (by kernel_rfl) ?_
                repeat (first | go_big_quiet_step ((first | (go_at_call_of 128 (Value.agg #[.int .i64 fx, .int .i64 fy]); exact Calls.up_of (before_true D1.out _)) | (go_at_call 128; exact Calls.up_of (before_true D2.out _)) | (go_at_call 127; exact Calls.up_of (at_any (px, py) _)) | (go_at_call 104; exact Calls.up_of (has_is D3.out HS.out (Vd.at1_sp HCP.out) _)))))
                refine wpQuiet_nil ?_
                rintro _ ⟨⟨w2, u2⟩, rfl⟩
                have HK2 := hide (HW.out.keep u2)
                have RP2 := RP.out.up u2
                have q0 := RP2.cell (i := 0) rfl
                have q1 := RP2.cell (i := 1) rfl
                have r0 := HK2.out.t0.cell (i := 0) rfl
                have r1 := HK2.out.t0.cell (i := 1) rfl
                have rf := fun i => HK2.out.t0.frozen i
                clear RP2
                clear u2 s0 s1 s2 s3 f0 f1 t0 t1 p0 p1
                go_wp2
                go_roundw
                case rel => exact ⟨q + 1, (px, py), by go_num, by omega, HK2.out.set (px, py), HY.out.symm⟩
                case measure => simp [intOf]; omega
            · skip
              have D1 := hide h1
              have D2 := hide h2
              have HY := hide (HX.out.trans (cutF_neg (fun x => h2 x.2.1)))
              clear h1 h2
              refine wp_region_up (by kernel_rfl) (by kernel_rfl) ?_
              repeat (first | go_big_quiet_step ((first | (go_at_call_of 128 (Value.agg #[.int .i64 fx, .int .i64 fy]); exact Calls.up_of (before_true D1.out _)) | (go_at_call 128; exact Calls.up_of (before_false D2.out _)))))
              refine wpQuiet_nil ?_
              rintro _ ⟨⟨w2, u2⟩, rfl⟩
              have HK2 := hide (HW.out.keep u2)
              clear u2 s0 s1 s2 s3 f0 f1 t0 t1 p0 p1
              go_wp2
              go_roundw
              case rel => exact ⟨q + 1, (tx, ty), by go_num, by omega, HK2, HY.out.symm⟩
              case measure => simp [intOf]; omega
          · skip
            have D1 := hide h1
            have HY := hide (HX.out.trans (cutF_neg (fun x => h1 x.1)))
            clear h1
            refine wp_region_up (by kernel_rfl) (by kernel_rfl) ?_
            repeat (first | go_big_quiet_step ((first | (go_at_call_of 128 (Value.agg #[.int .i64 fx, .int .i64 fy]); exact Calls.up_of (before_false D1.out _)))))
            refine wpQuiet_nil ?_
            rintro _ ⟨⟨w2, u2⟩, rfl⟩
            have HK2 := hide (HW.out.keep u2)
            clear u2 s0 s1 s2 s3 f0 f1 t0 t1 p0 p1
            go_wp2
            go_roundw
            case rel => exact ⟨q + 1, (tx, ty), by go_num, by omega, HK2, HY.out.symm⟩
            case measure => simp [intOf]; omega
        · have hq2 : q = r.length := by omega
          subst hq2
          rw [List.take_length] at HT
          go_wp2
          go_roundw
          case rel => exact ⟨k + 1, (tx, ty), by go_num, by omega, HK, by rw [HF.out]; exact HT⟩
          case measure => simp [intOf]; omega
    · have hk2 : k = rings.length := by omega
      subst hk2
      rw [List.take_length] at HT
      obtain ⟨tx, ty⟩ := tu
      have r0 := HK.out.t0.cell (i := 0) rfl
      have r1 := HK.out.t0.cell (i := 1) rfl
      have q0 := HK.out.r0.cell (i := 0) rfl
      have q1 := HK.out.r0.cell (i := 1) rfl
      have qf := fun i => HK.out.r0.frozen i
      go_wp2
      refine ret_cell Tryz.results102 rfl rfl (load_pnt (row_set2 HK.out.r0 _ _)) ⟨?_, (HK.out.up.setCell (by show w.heap.size ≤ w.heap.size + 2; omega) _).setCell (by show w.heap.size ≤ w.heap.size + 2; omega) _⟩
      show Ending.returned (ptV (tx, ty)) = _
      rw [HT.out]
      rfl
end Go.Proofs.YtcclepohmhdpbabGreatDoor

/- THE WALKS: package plane: Middles. -/
namespace Go.Proofs.YtcclepohmhdpbabGreatDoor
set_option linter.all false
open Go.RowKit Go.Deep

theorem und_spots : Tryz.prog.underlying 99 = some (.slice 65) := by kernel_rfl
theorem info_spot : (Tryz.prog.info? 65).map (fun i => (i.zero, i.size, i.bytes)) = some (some (.agg #[.int .i64 0, .int .i64 0, .int .i64 0]), 3, 24) := by kernel_rfl
theorem el_spots : Elem Tryz.prog 99 65 (.agg #[.int .i64 0, .int .i64 0, .int .i64 0]) 3 24 := ⟨und_spots, info_spot, rfl, by omega, by omega⟩

/-- what Middles holds: the way, and whence. -/
structure MD (w wr : World) (A : Nat) (s : Vd.Seg) (f : Pnt) : Prop where
  up : Up w wr
  a : w.heap.size ≤ A
  s0 : VRow wr A 98 [.int .i64 s.1.1, .int .i64 s.1.2, .int .i64 s.2.1, .int .i64 s.2.2]
  f0 : VRow wr (A + 1) 48 [.int .i64 f.1, .int .i64 f.2]
theorem MD.keep {w wr w2 : World} {A : Nat} {s : Vd.Seg} {f : Pnt} (h : MD w wr A s f) (k : Up wr w2) : MD w w2 A s f :=
  ⟨h.up.trans k, h.a, h.s0.up k, h.f0.up k⟩
theorem MD.set {w wr : World} {A : Nat} {s : Vd.Seg} {f : Pnt} (h : MD w wr A s f) (x y : Int) : MD w ((wr.setCell ⟨A + 1, 0, none⟩ (.int .i64 x)).setCell ⟨A + 1, 1, none⟩ (.int .i64 y)) A s (x, y) :=
  ⟨(h.up.setCell (by have := h.a; show w.heap.size ≤ A + 1; omega) _).setCell (by have := h.a; show w.heap.size ≤ A + 1; omega) _, h.a, (h.s0.setOther (by show A ≠ A + 1; omega) _).setOther (by show A ≠ A + 1; omega) _, row_set2 h.f0 _ _⟩
theorem MD.grown {w wr w2 : World} {A : Nat} {s : Vd.Seg} {f : Pnt} (h : MD w wr A s f) {v : Value} {n : Nat} {xs : List Value} (ho : wr.ownsRow w.heap.size 65 3 v n xs) (hg : wr.grownBy w2 v.ownBlock) : MD w w2 A s f :=
  ⟨Fr.up (S := fun _ => False) ((Fr.of_up h.up).grown hg fun x hx => .inr (own_lt ho hx).1) (fun _ _ h => h), h.a, h.s0.grown hg (own_row_ne ho h.s0 (by decide)), h.f0.grown hg (own_row_ne ho h.f0 (by decide))⟩

theorem midsF_step1 {s : Vd.Seg} {f : Pnt} {rings : Poly} (h : f ≠ s.2) {n : Nat} (hn : Vd.ahead s f rings ≤ n) :
    ∃ n', n = n' + 1 ∧ Vd.midsF n s f rings = Vd.midOf f (Vd.nextCut s f rings) :: Vd.midsF n' s (Vd.nextCut s f rings) rings ∧ Vd.ahead s (Vd.nextCut s f rings) rings ≤ n' := by
  have := Vd.ahead_step (rings := rings) h
  cases n with
  | zero => omega
  | succ n => exact ⟨n, rfl, by rw [Vd.midsF, if_neg h], by omega⟩
set_option maxHeartbeats 8000000 in
theorem middles_any (s : Vd.Seg) (v : Value) (rings : Poly) (w : World) (hs : Vd.CdS s) (hv : Rd2 w v rings) (hl : rings.length ≤ 1048576) (hl2 : ∀ r ∈ rings, r.length ≤ 1048576) (hf : rings.flatten.length ≤ 1048576) (hc : Vd.CdL rings) :
    Calls Tryz.prog 70 #[segV s, v] w fun e w' => ∃ u, e = .returned u ∧ Up w w' ∧ w'.ownsRow w.heap.size 65 3 u (Vd.mids s rings).length (flatG spotC (Vd.mids s rings)) := by
  have HS := hide hs
  have HC := hide hc
  have HL := hide hl2
  have HV := hide hv
  have HM : Hid (Vd.mids s rings = Vd.midsF (rings.flatten.length + 1) (Vd.fwd s.1 s.2) (Vd.fwd s.1 s.2).1 rings) := rfl
  have HW := hide (Vd.fwd_cd hs)
  have HA := hide (Vd.ahead_le (Vd.fwd s.1 s.2) (Vd.fwd s.1 s.2).1 rings)
  have HLen := hide (Vd.mids_len s rings)
  generalize hMs : Vd.mids s rings = Ms at *
  have HMs := hide hMs
  obtain ⟨⟨ax, ay⟩, ⟨bx, bY⟩⟩ := s
  clear hs hc hl2 hv hMs
  obtain ⟨ao, cap, rfl, -⟩ := HV.out
  simp only [segV]
  go_enter Tryz.func70, Tryz.ntmps70
  go_wp2_with fail
  refine (forward_any ((ax, ay), (bx, bY)) _).mono ?_
  rintro e w1 ⟨rfl, u1⟩
  generalize hfw : Vd.fwd ((ax, ay), bx, bY).1 ((ax, ay), bx, bY).2 = fw at *
  clear hfw
  obtain ⟨⟨cx, cy⟩, ⟨dx, dy⟩⟩ := fw
  have HU1 : Hid (Up w w1) := ((Up.refl _).alloc _).trans u1
  clear u1
  simp only [segV]
  have HD : Hid (MD w ((w1.alloc (.cells #[.int .i64 cx, .int .i64 cy, .int .i64 dx, .int .i64 dy] 98)).alloc (.cells #[.int .i64 cx, .int .i64 cy] 48)) w1.heap.size ((cx, cy), (dx, dy)) (cx, cy)) := by
    refine ⟨(HU1.out.alloc _).alloc _, HU1.out.size, ?_, ?_⟩
    · exact (new_row (vs := [_, _, _, _]) rfl).alloc _
    · have := (new_row (w := w1.alloc (.cells #[.int .i64 cx, .int .i64 cy, .int .i64 dx, .int .i64 dy] 98)) (o := .cells #[.int .i64 cx, .int .i64 cy] 48) (vs := [_, _]) rfl)
      simpa using this
  go_wp2_with fail
  go_loopg [5] (rings.flatten.length + 1) (fun n mv wr => ∃ (f : Pnt) (u : Value) (ms : List Vd.Spot), u = mv ∧ Hid (MD w wr w1.heap.size ((cx, cy), (dx, dy)) f) ∧ Hid (wr.ownsRow w.heap.size 65 3 u ms.length (flatG spotC ms)) ∧ Hid (Ms = ms ++ Vd.midsF n ((cx, cy), (dx, dy)) f rings) ∧ Hid (Vd.ahead ((cx, cy), (dx, dy)) f rings ≤ n) ∧ Hid (Vd.Cd f) ∧ Hid (ms.length + n ≤ rings.flatten.length + 1))
  case atStart => exact ⟨(cx, cy), _, [], rfl, HD, World.ownsRow_nil _ _ _ _, HM.out, HA.out, HW.out.1, by simp [Hid]⟩
  case round =>
    obtain ⟨⟨fx, fy⟩, u, ms, rfl, HD2, HO, HE, HB, HF, HN⟩ := hrel
    clear HD
    have s0 := HD2.out.s0.cell (i := 0) rfl
    have s1 := HD2.out.s0.cell (i := 1) rfl
    have s2 := HD2.out.s0.cell (i := 2) rfl
    have s3 := HD2.out.s0.cell (i := 3) rfl
    have f0 := HD2.out.f0.cell (i := 0) rfl
    have f1 := HD2.out.f0.cell (i := 1) rfl
    simp only at s0 s1 s2 s3 f0 f1
    by_cases he : (fx, fy) = (dx, dy)
    · cases he
      have HZ := hide (Vd.midsF_end (s := ((cx, cy), (dx, dy))) (f := (dx, dy)) (rings := rings) rfl gk)
      go_wp2
      go_ret
      refine ⟨_, rfl, HD2.out.up, ?_⟩
      have := HE.out
      rw [HZ.out, List.append_nil] at this
      rw [this]; exact HO.out
    · have HX := hide (midsF_step1 (s := ((cx, cy), (dx, dy))) he HB.out)
      have HNC := hide (Vd.nextCut_cd (s := ((cx, cy), (dx, dy))) (f := (fx, fy)) (rings := rings) HW.out HC.out)
      rcases (show fx ≠ dx ∨ (fx = dx ∧ fy ≠ dy) from by by_cases c : fx = dx; exact .inr ⟨c, fun e => he (by rw [c, e])⟩; exact .inl c) with hd | ⟨rfl, hd⟩
      all_goals
        have hd' := beq_eq_false_iff_ne.2 hd
        clear he hd
        go_wp2_with fail
        refine (nextCut_any ((cx, cy), (_, dy)) (fx, fy) _ rings _ HW.out (HV.out.up HD2.out.up) hl HL.out HC.out).mono ?_
        rintro e w2 ⟨rfl, u2⟩
        generalize hT : Vd.nextCut ((cx, cy), (_, dy)) (fx, fy) rings = T at *
        clear hT
        obtain ⟨tx, ty⟩ := T
        simp only [ptV]
        have HD3 := hide ((HD2.out.keep u2).keep ((Up.refl w2).alloc (.cells #[.int .i64 tx, .int .i64 ty] 48)))
        have HO3 := hide (own_up HO.out (u2.alloc (.cells #[.int .i64 tx, .int .i64 ty] 48)))
        have RT := hide (new_row (w := w2) (o := .cells #[.int .i64 tx, .int .i64 ty] 48) (vs := [.int .i64 tx, .int .i64 ty]) rfl)
        have g0 := HD3.out.f0.cell (i := 0) rfl
        have g1 := HD3.out.f0.cell (i := 1) rfl
        simp only at g0 g1
        clear u2 s0 s1 s2 s3 f0 f1
        go_wp2_with fail
        refine (middle_any (fx, fy) (tx, ty) HF.out HNC.out _).mono ?_
        rintro e w3 ⟨rfl, u3⟩
        have HD4 := hide (HD3.out.keep u3)
        have HO4 := hide (own_up HO3.out u3)
        have RT4 := hide (RT.out.up u3)
        clear u3 g0 g1 HD3 HO3 RT
        obtain ⟨n', HX0, HX1, HX2⟩ := HX.out
        have HX0 := hide HX0
        have HX1 := hide HX1
        have HX2 := hide HX2
        have HOA := hide (HO4.out.alloc (.cells #[.int .i64 (fx + tx), .int .i64 (fy + ty), .int .i64 2] 65))
        have HDA := hide (HD4.out.keep ((Up.refl w3).alloc (.cells #[.int .i64 (fx + tx), .int .i64 (fy + ty), .int .i64 2] 65)))
        have RTA := hide (RT4.out.alloc (.cells #[.int .i64 (fx + tx), .int .i64 (fy + ty), .int .i64 2] 65))
        have hb : Hid (ms.length ≤ 1073741824) := by have := HN.out; show _ ≤ _; omega
        have hsz := hide HDA.out.up.size
        clear hd'
        simp only [spotV, Vd.midOf]
        go_wp2_with (at_builtin; refine wpList_app el_spots rfl (.tmp 21) (.tmp 25) rfl w.heap.size _ _ _ (by rfl) HOA.out w3.heap.size [.int .i64 (fx + tx), .int .i64 (fy + ty), .int .i64 2] (by rfl) rfl (heap_alloc_new w3 _) (by intro x hx; simp at hx; rcases hx with rfl | rfl | rfl <;> rfl) hb.out hsz.out ?_; intro g cap w5 hown5 hg5 hat5 hlt5; have HD5 := hide (HDA.out.grown HOA.out hg5); have HO5 := hide hown5; have RT5 := RTA.out.grown hg5 (own_row_ne HOA.out RTA.out (by decide)); have t0 := RT5.cell (i := 0) rfl; have t1 := RT5.cell (i := 1) rfl; have k0 := HD5.out.f0.cell (i := 0) rfl; have k1 := HD5.out.f0.cell (i := 1) rfl; have kf := fun i => HD5.out.f0.frozen i; clear hown5 hg5 hat5 hlt5 RT5)
        go_roundg n'
        case rel =>
          refine ⟨(tx, ty), _, ms ++ [((fx + tx, fy + ty), 2)], rfl, HD5.out.set tx ty, ?_, ?_, HX2.out, HNC.out, ?_⟩
          · rw [flatG_append, List.length_append]
            exact own_set (own_set HO5.out (own_row_ne HO5.out HD5.out.f0 (by decide)) _) (own_row_ne HO5.out HD5.out.f0 (by decide)) _
          · rw [HE.out, HX1.out, List.append_assoc]; exact rfl
          · have := HN.out; have := HX0.out; simp only [Hid, List.length_append, List.length_singleton]; omega
        case measure => have := HX0.out; omega
end Go.Proofs.YtcclepohmhdpbabGreatDoor

/- THE WALKS: package clauses: Ring. -/
namespace Go.Proofs.YtcclepohmhdpbabGreatDoor
set_option linter.all false
open Go.RowKit Go.Deep

theorem anyI_step {n : Nat} {f : Nat → Bool} (h : Vd.anyI n f = false) (hf : f n = false) : Vd.anyI (n + 1) f = false := by rw [Vd.anyI_succ, h, hf]; rfl
theorem anyI_none {n : Nat} {f : Nat → Bool} (h : ∀ i, i < n → f i = false) : Vd.anyI n f = false := by
  induction n with
  | zero => rfl
  | succ n ih => rw [Vd.anyI_succ, ih fun i hi => h i (by omega), h n (by omega)]; rfl
/-- the round of hasTwice. -/
def twG (r : Ring) (i j : Nat) : Bool := decide (i < j) && decide (r[i]? = r[j]?)
def twF (r : Ring) (i : Nat) : Bool := decide (1 ≤ i) && Vd.anyI r.length (twG r i)
theorem twice_F (r : Ring) : Vd.twice r = Vd.anyI r.length (twF r) := rfl
theorem twG_at {r : Ring} {i j : Nat} (h : i < j) {a b c d : Int} (hi : r[i]? = some (a, b)) (hj : r[j]? = some (c, d)) : twG r i j = (decide (a = c) && decide (b = d)) := by
  unfold twG
  rw [decide_eq_true h, hi, hj, Bool.true_and]
  by_cases h1 : a = c <;> by_cases h2 : b = d <;> simp [h1, h2]
theorem twG_le {r : Ring} {i j : Nat} (h : j ≤ i) : twG r i j = false := by unfold twG; rw [decide_eq_false (by omega)]; rfl

set_option maxHeartbeats 4000000 in
theorem hasTwice_any (v : Value) (r : Ring) (w : World) (hv : Rd1 w v r) (hr : r.length ≤ 1048576) :
    Calls Tryz.prog 92 #[v] w fun e w' => e = .returned (.bool (Vd.twice r)) ∧ Up w w' := by
  obtain ⟨ao, cap, rfl, hm⟩ := hv
  have HM := hide hm
  have HT := hide (twice_F r)
  clear hm
  go_enter Tryz.func92, Tryz.ntmps92
  go_wp2
  go_loopw [3] (fun i wr => ∃ k : Nat, i = .int .i64 (k + 1 : Nat) ∧ k ≤ r.length ∧ Hid (Up w wr) ∧ Hid (Vd.anyI (k + 1) (twF r) = false)) (fun i _ => r.length + 1 - (intOf i).toNat)
  case atStart => exact ⟨0, rfl, Nat.zero_le _, Up.refl _, rfl⟩
  case round =>
    obtain ⟨k, rfl, hk, HU, HA⟩ := hrel
    by_cases hlt : k + 1 < r.length
    · obtain ⟨⟨ax, ay⟩, hp⟩ := Pl.some_of_lt hlt
      obtain ⟨b, rfl, c0, c1⟩ := HM.out (k + 1) _ hp
      have HP := hide hp
      have C0 := hide c0
      have C1 := hide c1
      clear c0 c1 hp
      go_wp2
      go_loopw [4] (fun j wr => ∃ q : Nat, j = .int .i64 (k + 1 + 1 + q : Nat) ∧ Hid (Up w wr) ∧ Hid (Vd.anyI (k + 1 + 1 + q) (twG r (k + 1)) = false) ∧ k + 1 + 1 + q ≤ r.length) (fun j _ => r.length - (intOf j).toNat)
      case atStart => exact ⟨0, by go_num, HU, anyI_none fun i hi => twG_le (by omega), by omega⟩
      case round =>
        clear HU
        obtain ⟨q, rfl, HU, HB, hq⟩ := hrel
        by_cases hlq : k + 1 + 1 + q < r.length
        · obtain ⟨⟨bx, bY⟩, hp2⟩ := Pl.some_of_lt hlq
          obtain ⟨b', e', d0, d1⟩ := HM.out (k + 1 + 1 + q) _ hp2
          cases e'
          have f0 := HU.out.cell C0.out
          have f1 := HU.out.cell C1.out
          have g0 := HU.out.cell d0
          have g1 := HU.out.cell d1
          have HG := hide (twG_at (show k + 1 < k + 1 + 1 + q by omega) HP.out hp2)
          dsimp only at f0 f1 g0 g1
          have i1 : (0 : Int) ≤ (k : Int) + 1 := by omega
          have i2 : (k : Int) + 1 < (r.length : Int) := by omega
          have i3 : (0 : Int) ≤ (k : Int) + 1 + 1 + (q : Int) := by omega
          have i4 : (k : Int) + 1 + 1 + (q : Int) < (r.length : Int) := by omega
          clear d0 d1 hp2
          by_cases h1 : ax = bx
          · by_cases h2 : ay = bY
            · subst h1 h2
              have HGt : Hid (Vd.twice r = true) := by
                rw [HT.out]
                refine Vd.anyI_true (i := k + 1) hlt ?_
                unfold twF
                rw [decide_eq_true (by omega), Bool.true_and]
                exact Vd.anyI_true hlq (by rw [HG.out]; simp)
              go_wp2
              go_quiet (fail)
              go_wp2
              go_ret
              exact ⟨ret_b HGt.out.symm, HU.out.drewN _⟩
            · have HGf : Hid (twG r (k + 1) (k + 1 + 1 + q) = false) := by rw [HG.out]; simp [h2, Hid]
              subst h1
              have h2' := beq_eq_false_iff_ne.2 h2
              go_wp2
              go_quiet (fail)
              go_wp2
              go_roundw
              case rel => exact ⟨q + 1, by go_num, HU.out.drewN _, anyI_step HB.out HGf.out, by omega⟩
              case measure => simp [intOf]; omega
          · have HGf : Hid (twG r (k + 1) (k + 1 + 1 + q) = false) := by rw [HG.out]; simp [h1, Hid]
            have h1' := beq_eq_false_iff_ne.2 h1
            go_wp2
            go_quiet (fail)
            go_wp2
            go_roundw
            case rel => exact ⟨q + 1, by go_num, HU.out.drewN _, anyI_step HB.out HGf.out, by omega⟩
            case measure => simp [intOf]; omega
        · have hq2 : k + 1 + 1 + q = r.length := by omega
          have HFf : Hid (twF r (k + 1) = false) := by
            unfold twF
            have := HB.out
            rw [hq2] at this
            rw [this]; simp [Hid]
          go_wp2
          go_roundw
          case rel => exact ⟨k + 1, by go_num, by omega, HU, anyI_step HA.out HFf.out⟩
          case measure => simp [intOf]; omega
    · have HR : Hid (Vd.twice r = false) := by
        rw [HT.out]
        by_cases h0 : r.length = 0
        · rw [h0]; exact rfl
        · have := HA.out
          by_cases e : k + 1 = r.length
          · rw [← e]; exact this
          · have e2 : k = r.length := by omega
            subst e2
            rw [Vd.anyI_succ, Bool.or_eq_false_iff] at this
            exact this.1
      go_wp2
      go_ret
      exact ⟨ret_b HR.out.symm, HU.out⟩
end Go.Proofs.YtcclepohmhdpbabGreatDoor

/- THE WALKS: package clauses: meetsItself, areSimple. -/
namespace Go.Proofs.YtcclepohmhdpbabGreatDoor
set_option linter.all false
open Go.RowKit Go.Deep

/-- the rounds of meetsItself. -/
def slG (l : List Vd.Seg) (j i : Nat) : Bool := decide (Vd.meetS (Vd.sAt l i) (Vd.sAt l j) ≠ Vd.wantI l.length i j)
def slF (l : List Vd.Seg) (j : Nat) : Bool := Vd.anyI j (slG l j)
theorem self_F (r : Ring) : Vd.selfR r = Vd.anyI (Vd.segs r).length (slF (Vd.segs r)) := rfl
theorem sAt_some {l : List Vd.Seg} {i : Nat} {s : Vd.Seg} (h : l[i]? = some s) : Vd.sAt l i = s := by unfold Vd.sAt; rw [List.getD_eq_getElem?_getD, h]; rfl
theorem want_cases (n i j : Nat) : (i + 1 = j ∧ Vd.wantI n i j = 1) ∨ (i + 1 ≠ j ∧ i = 0 ∧ j + 1 = n ∧ Vd.wantI n i j = 1) ∨ (i + 1 ≠ j ∧ i = 0 ∧ j + 1 ≠ n ∧ Vd.wantI n i j = 0) ∨ (i + 1 ≠ j ∧ i ≠ 0 ∧ Vd.wantI n i j = 0) := by
  unfold Vd.wantI
  by_cases h1 : i + 1 = j
  · left; exact ⟨h1, if_pos (.inl h1)⟩
  · right
    by_cases h2 : i = 0
    · by_cases h3 : j + 1 = n
      · left; exact ⟨h1, h2, h3, if_pos (.inr ⟨h2, h3⟩)⟩
      · right; left; exact ⟨h1, h2, h3, if_neg (by omega)⟩
    · right; right; exact ⟨h1, h2, if_neg (by omega)⟩

set_option maxHeartbeats 8000000 in
theorem meetsItself_any (v : Value) (r : Ring) (w : World) (hv : Rd1 w v r) (hr : r.length ≤ 1048576) (hc : Vd.CdR r) :
    Calls Tryz.prog 93 #[v] w fun e w' => e = .returned (.bool (Vd.selfR r)) ∧ Up w w' := by
  have HV := hide hv
  have HC := hide hc
  have HT := hide (self_F r)
  have hsl : (Vd.segs r).length ≤ 1048576 := by rw [Vd.segs_len]; omega
  obtain ⟨ao, cap, rfl, -⟩ := HV.out
  clear hv hc
  go_enter Tryz.func93, Tryz.ntmps93
  go_wp2_with fail
  refine (segments_any _ r _ HV.out hr).mono ?_
  rintro e w1 ⟨sv, rfl, u1, ho⟩
  obtain ⟨sa, sc, es⟩ := own_len ho
  subst es
  have HR := hide (own_rdG (f := segC) (fun _ => rfl) ho)
  have HU1 := hide u1
  have HCS : Hid (∀ i s, (Vd.segs r)[i]? = some s → Vd.CdS s) := fun i s hs => Vd.segs_cd HC.out (Pl.mem_of_some hs)
  generalize Vd.segs r = L at *
  clear ho u1
  go_wp2_with fail
  go_loopw [12] (fun i wr => ∃ k : Nat, i = .int .i64 k ∧ k ≤ L.length ∧ Hid (Up w1 wr) ∧ Hid (Vd.anyI k (slF L) = false)) (fun i _ => L.length - (intOf i).toNat)
  case atStart => exact ⟨0, rfl, Nat.zero_le _, Up.refl _, rfl⟩
  case round =>
    obtain ⟨k, rfl, hk, HU, HA⟩ := hrel
    by_cases hlt : k < L.length
    · obtain ⟨⟨⟨ax, ay⟩, ⟨bx, bY⟩⟩, hs⟩ := Pl.some_of_lt hlt
      obtain ⟨g, cap', ev, c0, c1, c2, c3⟩ := (HR.out.up HU.out).seg hs
      cases ev
      have HCk := hide (HCS.out _ _ hs)
      have Hk := hide hs
      simp only at c0 c1 c2 c3
      clear hs
      go_wp2_with fail
      have RT := hide (new_row (w := wr) (o := .cells #[.int .i64 ax, .int .i64 ay, .int .i64 bx, .int .i64 bY] 98) (vs := [.int .i64 ax, .int .i64 ay, .int .i64 bx, .int .i64 bY]) rfl)
      have HUa : Hid (Up w1 (wr.alloc (.cells #[.int .i64 ax, .int .i64 ay, .int .i64 bx, .int .i64 bY] 98))) := HU.out.alloc _
      generalize hB : wr.heap.size = B at *
      clear hB c0 c1 c2 c3
      go_loopw [6] (fun i wq => ∃ q : Nat, i = .int .i64 q ∧ q ≤ k ∧ Hid (Up w1 wq) ∧ Hid (VRow wq B 98 [.int .i64 ax, .int .i64 ay, .int .i64 bx, .int .i64 bY]) ∧ Hid (Vd.anyI q (slG L k) = false)) (fun i _ => k - (intOf i).toNat)
      case atStart => exact ⟨0, rfl, Nat.zero_le _, HUa, RT, rfl⟩
      case round =>
        clear HUa RT
        obtain ⟨q, rfl, hq, HUq, RT, HB⟩ := hrel
        by_cases hlq : q < k
        · obtain ⟨⟨⟨cx, cy⟩, ⟨dx, dy⟩⟩, hs2⟩ := Pl.some_of_lt (show q < L.length by omega)
          obtain ⟨g', cap'', ev, c0, c1, c2, c3⟩ := (HR.out.up HUq.out).seg hs2
          cases ev
          have HCq := hide (HCS.out _ _ hs2)
          have HG : Hid (slG L k q = decide (Vd.meetS ((cx, cy), (dx, dy)) ((ax, ay), (bx, bY)) ≠ Vd.wantI L.length q k)) := by
            unfold slG; rw [sAt_some hs2, sAt_some Hk.out]; exact rfl
          simp only at c0 c1 c2 c3
          have s0 := cell_gr c0
          have s1 := cell_gr c1
          have s2 := cell_gr c2
          have s3 := cell_gr c3
          have t0 := RT.out.gr (i := 0) rfl
          have t1 := RT.out.gr (i := 1) rfl
          have t2 := RT.out.gr (i := 2) rfl
          have t3 := RT.out.gr (i := 3) rfl
          have i1 : (0 : Int) ≤ (q : Int) := by omega
          have i2 : (q : Int) < (L.length : Int) := by omega
          have wc := want_cases L.length q k
          clear hs2 c0 c1 c2 c3
          have fin : Hid (slG L k q = true → Vd.selfR r = true) := by
            intro h
            rw [HT.out]
            exact Vd.anyI_true hlt (Vd.anyI_true (f := slG L k) hlq h)
          rcases wc with ⟨h1, hw⟩ | ⟨h1, h2, h3, hw⟩ | ⟨h1, h2, h3, hw⟩ | ⟨h1, h2, hw⟩
          all_goals
            rw [hw] at HG
            clear hw
            first
            | (have j1 : ((q : Int) + 1 == (k : Int)) = true := beq_iff_eq.2 (by omega))
            | (have j1 : ((q : Int) + 1 == (k : Int)) = false := beq_eq_false_iff_ne.2 (by omega)
               first
               | (have j2 : ((q : Int) == 0) = false := beq_eq_false_iff_ne.2 (by omega))
               | (have j2 : ((q : Int) == 0) = true := beq_iff_eq.2 (by omega)
                  first
                  | (have j3 : ((k : Int) == (L.length : Int) - 1) = true := beq_iff_eq.2 (by omega))
                  | (have j3 : ((k : Int) == (L.length : Int) - 1) = false := beq_eq_false_iff_ne.2 (by omega))))
            try clear h3
            try clear h2
            try clear h1
            go_wp2_with fail
            refine wp_region_up (by kernel_rfl) (by kernel_rfl) ?_
            repeat (first | go_big_quiet_step ((go_at_call 130; exact Calls.up_of (meet_any ((cx, cy), (dx, dy)) ((ax, ay), (bx, bY)) HCq.out HCk.out _))))
            refine wpQuiet_nil ?_
            rintro _ ⟨⟨w3, u3⟩, rfl⟩
            have HU3 := hide (HUq.out.trans u3)
            have RT3 := hide (RT.out.up u3)
            clear u3 s0 s1 s2 s3 t0 t1 t2 t3
            generalize Vd.meetS ((cx, cy), dx, dy) ((ax, ay), bx, bY) = M at *
            first
            | (by_cases hM : M = 1
               · have HGf : Hid (slG L k q = false) := by rw [HG.out]; simp [hM, Hid]
                 subst hM
                 go_wp2
                 go_roundw
                 case rel => exact ⟨q + 1, by go_num, by omega, HU3, RT3, anyI_step HB.out HGf.out⟩
                 case measure => simp [intOf]; omega
               · have HGt := hide (fin.out (by rw [HG.out]; simpa using hM))
                 have hM' := beq_eq_false_iff_ne.2 hM
                 go_wp2
                 go_ret
                 exact ⟨ret_b HGt.out.symm, HU1.out.trans HU3.out⟩)
            | (by_cases hM : M = 0
               · have HGf : Hid (slG L k q = false) := by rw [HG.out]; simp [hM, Hid]
                 subst hM
                 go_wp2
                 go_roundw
                 case rel => exact ⟨q + 1, by go_num, by omega, HU3, RT3, anyI_step HB.out HGf.out⟩
                 case measure => simp [intOf]; omega
               · have HGt := hide (fin.out (by rw [HG.out]; simpa using hM))
                 have hM' := beq_eq_false_iff_ne.2 hM
                 go_wp2
                 go_ret
                 exact ⟨ret_b HGt.out.symm, HU1.out.trans HU3.out⟩)
        · have hq2 : q = k := by omega
          subst hq2
          go_wp2
          go_roundw
          case rel => exact ⟨q + 1, by go_num, by omega, HUq, anyI_step HA.out HB.out⟩
          case measure => simp [intOf]; omega
    · have hk2 : k = L.length := by omega
      subst hk2
      have HRf : Hid (Vd.selfR r = false) := by rw [HT.out]; exact HA.out
      go_wp2
      go_ret
      exact ⟨ret_b HRf.out.symm, HU1.out.trans HU.out⟩

set_option maxHeartbeats 4000000 in
theorem areSimple_any (v : Value) (l : Poly) (w : World) (hv : Rd2 w v l) (hl : l.length ≤ 1048576) (hl2 : ∀ r ∈ l, r.length ≤ 1048576) (hc : Vd.CdL l) :
    Calls Tryz.prog 62 #[v] w fun e w' => e = .returned (.bool (Vd.simple l)) ∧ Up w w' := by
  obtain ⟨ao, cap, rfl, hm⟩ := hv
  have HM := hide hm
  have HC := hide hc
  have HL := hide hl2
  have HS : Hid (Vd.simple l = !(l.any fun r => Vd.twice r || Vd.selfR r)) := rfl
  generalize hf : (fun r => Vd.twice r || Vd.selfR r) = f at *
  have HF : Hid (∀ r, f r = (Vd.twice r || Vd.selfR r)) := by subst hf; exact fun _ => rfl
  clear hm hc hl2 hf
  go_enter Tryz.func62, Tryz.ntmps62
  go_wp2
  go_loopw [7] (fun i wr => ∃ k : Nat, i = .int .i64 k ∧ k ≤ l.length ∧ Hid (Up w wr) ∧ Hid ((l.take k).any f = false)) (fun i _ => l.length - (intOf i).toNat)
  case atStart => exact ⟨0, rfl, Nat.zero_le _, Up.refl _, rfl⟩
  case round =>
    obtain ⟨k, rfl, hk, HU, HA⟩ := hrel
    by_cases hlt : k < l.length
    · obtain ⟨r, hr⟩ := Pl.some_of_lt hlt
      obtain ⟨b, u, rfl, cu, hu⟩ := HM.out k r hr
      have HUr := hide (hu.up HU.out)
      have cu2 := HU.out.cell cu
      have Hr := hide hr
      have HrL := hide (HL.out r (Pl.mem_of_some hr))
      have HrC := hide (HC.out r (Pl.mem_of_some hr))
      have HX := hide (Pl.any_take_succ f hr)
      clear hr cu hu
      cases ht : Vd.twice r
      · cases hs : Vd.selfR r
        · have HT := hide ht
          have HSf := hide hs
          have HFf : Hid (f r = false) := by rw [HF.out, ht, hs]; exact rfl
          clear ht hs
          go_wp2_with (first | (go_at_call 92; refine (hasTwice_any _ r _ HUr.out HrL.out).mono ?_; rintro e w2 ⟨rfl, u2⟩; rw [HT.out]; replace u2 := hide u2) | (go_at_call 93; refine (meetsItself_any _ r _ (HUr.out.up u2.out) HrL.out HrC.out).mono ?_; rintro e w3 ⟨rfl, u3⟩; rw [HSf.out]; replace u3 := hide u3))
          go_roundw
          case rel => exact ⟨k + 1, by go_num, by omega, (HU.out.trans u2.out).trans u3.out, by rw [HX.out, HA.out, HFf.out]; exact rfl⟩
          case measure => simp [intOf]; omega
        · have HT := hide ht
          have HSf := hide hs
          have HFt : Hid (Vd.simple l = false) := by rw [HS.out, Pl.any_true_of f Hr.out (by rw [HF.out, ht, hs]; rfl)]; exact rfl
          clear ht hs
          go_wp2_with (first | (go_at_call 92; refine (hasTwice_any _ r _ HUr.out HrL.out).mono ?_; rintro e w2 ⟨rfl, u2⟩; rw [HT.out]; replace u2 := hide u2) | (go_at_call 93; refine (meetsItself_any _ r _ (HUr.out.up u2.out) HrL.out HrC.out).mono ?_; rintro e w3 ⟨rfl, u3⟩; rw [HSf.out]; replace u3 := hide u3))
          go_ret
          exact ⟨ret_b HFt.out.symm, (HU.out.trans u2.out).trans u3.out⟩
      · have HT := hide ht
        have HFt : Hid (Vd.simple l = false) := by rw [HS.out, Pl.any_true_of f Hr.out (by rw [HF.out, ht]; rfl)]; exact rfl
        clear ht
        go_wp2_with (first | (go_at_call 92; refine (hasTwice_any _ r _ HUr.out HrL.out).mono ?_; rintro e w2 ⟨rfl, u2⟩; rw [HT.out]; replace u2 := hide u2))
        go_ret
        exact ⟨ret_b HFt.out.symm, HU.out.trans u2.out⟩
    · have hk2 : k = l.length := by omega
      subst hk2
      rw [List.take_length] at HA
      have HRt : Hid (Vd.simple l = true) := by rw [HS.out, HA.out]; exact rfl
      go_wp2
      go_ret
      exact ⟨ret_b HRt.out.symm, HU.out⟩
end Go.Proofs.YtcclepohmhdpbabGreatDoor
