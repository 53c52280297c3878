import Derived.Test.YtcclepohmhdpbaaGreatDoorClG
import Derived.Test.YtcclepohmhdpbaaGreatDoorRfB
import Derived.Test.YtcclepohmhdpbaaGreatDoorGhC
import Derived.Deep.Upon
import Derived.BigRegion
import Derived.Deep.DeepCutAuto
import Derived.Test.YtcclepohmhdpbaaGreatDoorWalkC
/- THE WALKS: package clauses: hasWayRound. -/
namespace Go.Proofs.YtcclepohmhdpbaaGreatDoor
set_option linter.all false
open Go.RowKit Go.Deep

theorem touch_more {l : Poly} {p : Pnt} (h : p ∈ Vd.touchPts l) : 1 < (Vd.ringsAt l p).length := by
  have := ((Vd.touch_fold l l.flatten [] List.nodup_nil (by simp)).2 p).1 h
  simpa using this.elim (fun x => by cases x) (fun x => x.2)
theorem touch_in {l : Poly} {p : Pnt} (h : p ∈ Vd.touchPts l) : p ∈ l.flatten := by
  have := ((Vd.touch_fold l l.flatten [] List.nodup_nil (by simp)).2 p).1 h
  exact this.elim (fun x => by cases x) (fun x => x.1)
theorem touch_len (l : Poly) : (Vd.touchPts l).length ≤ l.flatten.length := by
  have := tpN_len l l.flatten []
  rw [List.length_nil, Nat.zero_add] at this
  exact this
theorem fI_range (k : Nat) : flatG intC (List.range (k + 1)) = flatG intC (List.range k) ++ [.int .i64 (k : Int)] := by rw [List.range_succ, flatG_append]; rfl
theorem wayL_none {l : Poly} {p : Pnt} {t : List Pnt} {g : List Nat} (h : Vd.join g (Vd.ringsAt l p) = none) : Vd.wayL l (p :: t) g = true := by unfold Vd.wayL; rw [h]
theorem wayL_some {l : Poly} {p : Pnt} {t : List Pnt} {g g' : List Nat} (h : Vd.join g (Vd.ringsAt l p) = some g') : Vd.wayL l (p :: t) g = Vd.wayL l t g' := by conv => lhs; unfold Vd.wayL; rw [h]
theorem ringsAt_lt {l : Poly} {p : Pnt} {j : Nat} (h : j ∈ Vd.ringsAt l p) : j < l.length := (((Vd.at_ringsAt l).mem j p).1 h).1

/-- what hasWayRound holds. -/
structure WY (w wr : World) (gv : Value) (g : List Nat) : Prop where
  up : Up w wr
  row : VRow wr w.heap.size 184 [gv]
  own : wr.ownsRow w.heap.size 3 1 gv g.length (flatG intC g)
theorem WY.keep {w wr w2 : World} {gv : Value} {g : List Nat} (h : WY w wr gv g) (k : Up wr w2) : WY w w2 gv g := ⟨h.up.trans k, h.row.up k, own_up h.own k⟩

set_option maxHeartbeats 8000000 in
theorem way_any (v : Value) (l : Poly) (w : World) (hv : Rd2 w v l) (hl : l.length ≤ 1048576) (hl2 : ∀ r ∈ l, r.length ≤ 1048576) (hf : l.flatten.length ≤ 1048576) (hc : Vd.CdL l) :
    Calls Tryz.prog 124 #[v] w fun e w' => e = .returned (.bool (Vd.way l)) ∧ Up w w' := by
  have HV := hide hv
  have HC := hide hc
  have HL := hide hl2
  have HF := hide hf
  have HW : Hid (Vd.way l = Vd.wayL l (Vd.touchPts l) (List.range l.length)) := rfl
  obtain ⟨ao, cap, rfl, -⟩ := hv
  clear hc hl2 hf
  have H0 : Hid (WY w (w.alloc (.cells #[.slice none 0 0] 184)) (.slice none 0 0) (List.range 0)) :=
    ⟨(Up.refl _).alloc _, new_row (vs := [_]) rfl, World.ownsRow_nil _ _ _ _⟩
  go_enter Tryz.func124, Tryz.ntmps124
  go_wp2
  go_loopw [9] (fun i wr => ∃ (k : Nat) (gv : Value), i = .int .i64 k ∧ k ≤ l.length ∧ Hid (WY w wr gv (List.range k))) (fun i _ => l.length - (intOf i).toNat)
  case atStart => exact ⟨0, _, rfl, Nat.zero_le _, H0⟩
  case round =>
    clear H0
    obtain ⟨k, gv, rfl, hk, HN⟩ := hrel
    by_cases hlt : k < l.length
    · have c0 := HN.out.row.cell (i := 0) rfl
      have HOA : Hid ((wr.alloc (.cells #[.int .i64 (k : Int)] 3)).ownsRow w.heap.size 3 1 gv k (flatG intC (List.range k))) := by
        have := HN.out.own.alloc (.cells #[.int .i64 (k : Int)] 3)
        rw [List.length_range] at this
        exact this
      have hb : Hid (k ≤ 1073741824) := by show _ ≤ _; omega
      have hsz := hide HN.out.up.size
      have RA := hide (HN.out.row.alloc (.cells #[.int .i64 (k : Int)] 3))
      go_wp2_with (at_builtin; refine wpList_app el_ints rfl (.tmp 13) (.tmp 15) rfl w.heap.size _ _ _ (by rfl) HOA.out wr.heap.size [.int .i64 (k : Int)] (by rfl) rfl (heap_alloc_new wr _) (by intro x hx; simp at hx; subst hx; rfl) hb.out (by simp; have := hsz.out; omega) ?_; intro g cap w5 hown5 hg5 hat5 hlt5; have R5 := hide (RA.out.grown hg5 (own_row_ne HOA.out RA.out (by decide))); have d0 := R5.out.cell (i := 0) rfl; have df := R5.out.frozen 0; replace hown5 := hide hown5; replace hg5 := hide hg5; clear hat5 hlt5)
      go_roundw
      case rel =>
        refine ⟨k + 1, .slice (some ⟨g, 0, none⟩) (k + 1) cap, by go_num, by omega, ?_, ?_, ?_⟩
        · exact (Fr.up (S := fun _ => False) (((Fr.of_up HN.out.up).alloc _).grown hg5.out fun x hx => .inr (own_lt HOA.out hx).1) (fun _ _ h => h)).setCell (Nat.le_refl _) _
        · exact R5.out.set 0 _
        · rw [List.length_range, fI_range]
          exact own_set hown5.out (own_row_ne hown5.out R5.out (by decide)) _
      case measure => simp [intOf]; omega
    · have hk2 : k = l.length := by omega
      subst hk2
      go_wp2_with fail
      refine (touchPoints_any _ l _ (HV.out.up HN.out.up) hl HL.out HF.out HC.out).mono ?_
      rintro e w2 ⟨tv, rfl, hz2, hto⟩
      obtain ⟨ta, tc, rfl⟩ := own_len hto
      have HN2 := hide (HN.out.keep hz2)
      have HTo := hide hto
      have HTb := hide HN.out.up.size
      have htl : (Vd.touchPts l).length ≤ 1048576 := Nat.le_trans (touch_len l) HF.out
      have HM : Hid (∀ i p, (Vd.touchPts l)[i]? = some p → 1 < (Vd.ringsAt l p).length ∧ Vd.Cd p) := fun i p hp => ⟨touch_more (Pl.mem_of_some hp), by
        obtain ⟨r, h1, h2⟩ := List.mem_flatten.1 (touch_in (Pl.mem_of_some hp)); exact HC.out r h1 p h2⟩
      generalize Vd.touchPts l = T at *
      clear hz2 hto HN
      go_wp2_with fail
      go_loopw [22] (fun i wq => ∃ (k : Nat) (g : List Nat), i = .int .i64 k ∧ k ≤ T.length ∧ Hid (WY w wq gv g) ∧ Hid (g.length = l.length) ∧ Hid (wq.ownsRow wr.heap.size 32 2 (.slice ta T.length tc) T.length (flat T)) ∧ Hid (Vd.way l = Vd.wayL l (T.drop k) g)) (fun i _ => T.length - (intOf i).toNat)
      case atStart => exact ⟨0, _, rfl, Nat.zero_le _, HN2, List.length_range, HTo, HW⟩
      case round =>
        clear HN2 HTo
        obtain ⟨k, g, rfl, hk, HN, HG, HTo, HX⟩ := hrel
        by_cases hlt : k < T.length
        · obtain ⟨⟨px, py⟩, hp⟩ := Pl.some_of_lt hlt
          obtain ⟨hrn, hcp⟩ := HM.out k _ hp
          obtain ⟨ta', tc', ev, htr⟩ := own_rd1 HTo.out
          cases ev
          obtain ⟨b, rfl, c0, c1⟩ := htr k _ hp
          dsimp only at c0 c1
          have HCp := hide hcp
          have HD := hide (drop_at hp)
          have Hrn := hide hrn
          clear hp hcp hrn htr
          go_wp2_with fail
          refine (ringsAt_any _ l (px, py) _ ((HV.out.up HN.out.up).up ((Up.refl _).alloc _)) hl HL.out HC.out HCp.out).mono ?_
          rintro e w3 ⟨jv, rfl, hz3, hjo⟩
          obtain ⟨a, t, hJ⟩ : ∃ a t, Vd.ringsAt l (px, py) = a :: t := by
            cases hr : Vd.ringsAt l (px, py) with
            | nil => have := Hrn.out; rw [hr] at this; simp at this
            | cons a t => exact ⟨a, t, rfl⟩
          have HJL := hide (fun j (h : j ∈ Vd.ringsAt l (px, py)) => ringsAt_lt h)
          have hjl := ringsAt_len l (px, py)
          have HWn := hide (fun t' g' => wayL_none (l := l) (p := (px, py)) (t := t') (g := g'))
          have HWs := hide (fun t' g' g'' => wayL_some (l := l) (p := (px, py)) (t := t') (g := g') (g' := g''))
          rw [hJ] at hjo HJL hjl HWn HWs
          obtain ⟨jb, jc, ej, hjc⟩ := own_cell hjo (by simp)
          subst ej
          have hn0 : 0 < g.length := by
            rw [HG.out]
            have := HJL.out a (by simp)
            omega
          obtain ⟨gb, gc, eg, -⟩ := own_cell HN.out.own hn0
          subst eg
          have hgn := HG.out
          rw [hgn] at HN
          have hgb : w.heap.size ≤ gb ∧ gb < wr.heap.size := own_lt HN.out.own rfl
          have hjb : wr.heap.size + 1 ≤ jb ∧ jb < w3.heap.size := by have := own_lt hjo (g := jb) rfl; simpa using this
          have HN3 := hide (HN.out.keep (((Up.refl _).alloc _).trans hz3))
          have hne : w.heap.size ≠ gb := fun e => own_row_ne HN.out.own HN.out.row (by decide) (by rw [e]; rfl)
          have HJ : Hid (JN w3 w3 w.heap.size gb gc w.heap.size jb jc l.length (a :: t) g) := by
            refine ⟨Fr.refl _ _, HN3.out.row, ?_, HG.out, fun i j hj => hjc i _ (fI_at hj), hne, by omega⟩
            have := HN3.out.own
            rw [hgn] at this
            exact this
          have HTo3 := hide (own_up HTo.out (((Up.refl _).alloc _).trans hz3))
          have Hgb := hide hgb
          clear hjo hz3 hjc hgn hn0 hne hgb hjb c0 c1 HN HTo
          simp only [List.length_cons] at hjl
          go_wp2_with fail
          refine (join_any w.heap.size gb gc w.heap.size jb jc l.length a t g _ HJ.out hl (by omega) HJL.out).mono ?_
          rintro e w4 ⟨rfl, hfr, hjn⟩
          have HU4 : Hid (Up w w4) := Fr.up (S := fun b => b = gb) ((Fr.of_up HN3.out.up).trans hfr) (fun x hx e => by have := Hgb.out; omega)
          have HTo4 := hide (own_fr HTo3.out hfr fun x hx e => by
            have h1 := own_type HTo3.out hx
            have h2 := own_type HN3.out.own (g := gb) rfl
            obtain ⟨q1, h1⟩ := h1
            obtain ⟨q2, h2⟩ := h2
            rw [e, h2] at h1
            simp at h1)
          cases hj : Vd.join g (a :: t) with
          | none =>
            have HR : Hid (Vd.way l = true) := by rw [HX.out, HD.out]; exact HWn.out _ _ hj
            clear hjn hfr
            go_wp2
            go_ret
            exact ⟨ret_b HR.out.symm, HU4.out⟩
          | some g' =>
            have HR : Hid (Vd.way l = Vd.wayL l (T.drop (k + 1)) g') := by rw [HX.out, HD.out]; exact HWs.out _ _ _ hj
            have HJ4 := hide (hjn g' hj)
            clear hjn hfr
            go_wp2
            go_roundw
            case rel =>
              refine ⟨k + 1, g', by go_num, by omega, ?_, HJ4.out.len, HTo4, HR⟩
              rw [HG.out]
              exact ⟨HU4.out, HJ4.out.row, by have := HJ4.out.own; rw [HJ4.out.len]; exact this⟩
            case measure => simp [intOf]; omega
        · have hk2 : k = T.length := by omega
          subst hk2
          rw [List.drop_length] at HX
          have HR : Hid (Vd.way l = false) := HX.out
          go_wp2
          go_ret
          exact ⟨ret_b HR.out.symm, HN.out.up⟩
end Go.Proofs.YtcclepohmhdpbaaGreatDoor

/- THE WALKS: package clauses: isFree, boundsCross, enters. -/
namespace Go.Proofs.YtcclepohmhdpbaaGreatDoor
set_option linter.all false
open Go.RowKit Go.Deep

theorem freeL_on {r : Ring} {t : List Ring} {b f : Bool} {p : Vd.Spot} (h : Vd.place r p = 1) : Vd.freeL (r :: t) b f p = false := by unfold Vd.freeL; rw [if_pos h]
theorem freeL_go {r : Ring} {t : List Ring} {b f : Bool} {p : Vd.Spot} (h : Vd.place r p ≠ 1) : Vd.freeL (r :: t) b f p = Vd.freeL t false (f || (b && decide (Vd.place r p = 0)) || (!b && decide (Vd.place r p = 2))) p := by conv => lhs; unfold Vd.freeL; rw [if_neg h]
theorem place_range (r : Ring) (p : Vd.Spot) : ∀ (l : List Vd.Seg) (i : Bool), Vd.placeL l i p = 0 ∨ Vd.placeL l i p = 1 ∨ Vd.placeL l i p = 2 := by
  intro l
  induction l with
  | nil => intro i; cases i <;> simp [Vd.placeL]
  | cons s l ih =>
    intro i
    unfold Vd.placeL
    split
    · simp
    · exact ih _

set_option maxHeartbeats 8000000 in
theorem free_any (v : Value) (l : Poly) (p : Vd.Spot) (w : World) (hv : Rd2 w v l) (hl : l.length ≤ 1048576) (hl2 : ∀ r ∈ l, r.length ≤ 1048576) (hc : Vd.CdL l) (hp : Vd.Sp p) :
    Calls Tryz.prog 163 #[v, spotV p] w fun e w' => e = .returned (.bool (Vd.free l p)) ∧ Up w w' := by
  obtain ⟨ao, cap, rfl, hm⟩ := hv
  have HM := hide hm
  have HC := hide hc
  have HL := hide hl2
  have HP := hide hp
  obtain ⟨⟨x, y⟩, t⟩ := p
  clear hm hc hl2 hp
  simp only [spotV]
  have R0 := hide (new_row (w := w) (o := .cells #[.int .i64 x, .int .i64 y, .int .i64 t] 127) (vs := [.int .i64 x, .int .i64 y, .int .i64 t]) rfl)
  have HU0 : Hid (Up w (w.alloc (.cells #[.int .i64 x, .int .i64 y, .int .i64 t] 127))) := (Up.refl _).alloc _
  go_enter Tryz.func163, Tryz.ntmps163
  go_wp2
  go_loopw [5, 11] (fun fv i wr => ∃ (k : Nat) (f : Bool), i = .int .i64 k ∧ fv = .bool f ∧ k ≤ l.length ∧ Hid (Up w wr) ∧ Hid (VRow wr w.heap.size 127 [.int .i64 x, .int .i64 y, .int .i64 t]) ∧ Hid (Vd.free l ((x, y), t) = Vd.freeL (l.drop k) (decide (k = 0)) f ((x, y), t))) (fun _ i _ => l.length - (intOf i).toNat)
  case atStart => exact ⟨0, false, rfl, rfl, Nat.zero_le _, HU0, R0, rfl⟩
  case round =>
    clear HU0 R0
    obtain ⟨k, f, rfl, rfl, hk, HU, R0, HE⟩ := hrel
    by_cases hlt : k < l.length
    · obtain ⟨r, hr⟩ := Pl.some_of_lt hlt
      obtain ⟨b, z, rfl, cu, hz⟩ := HM.out k r hr
      have Hz := hide (hz.up HU.out)
      have cu2 := HU.out.cell cu
      have HrL := hide (HL.out r (Pl.mem_of_some hr))
      have HrC := hide (HC.out r (Pl.mem_of_some hr))
      have p0 := R0.out.cell (i := 0) rfl
      have p1 := R0.out.cell (i := 1) rfl
      have p2 := R0.out.cell (i := 2) rfl
      rw [drop_at hr] at HE
      clear hr cu hz
      go_wp2_with fail
      refine (place_any _ r ((x, y), t) _ Hz.out HrL.out HrC.out HP.out).mono ?_
      rintro e w2 ⟨rfl, hz2⟩
      have HU2 := hide (HU.out.trans hz2)
      have R2 := hide (R0.out.up hz2)
      clear hz2 cu2 p0 p1 p2
      by_cases h1 : Vd.place r ((x, y), t) = 1
      · have HR := hide (HE.out.trans (freeL_on h1))
        rw [h1]
        go_wp2
        go_ret
        exact ⟨ret_b HR.out.symm, HU2.out⟩
      · have HR := hide (HE.out.trans (freeL_go h1))
        generalize Vd.place r ((x, y), t) = P at *
        have h1' := beq_eq_false_iff_ne.2 h1
        by_cases hk0 : k = 0
        · have HK := hide hk0
          rw [decide_eq_true hk0] at HR
          have j1 : ((k : Int) == 0) = true := beq_iff_eq.2 (by omega)
          clear hk0
          by_cases h0 : P = 0
          · have HR2 : Hid (Vd.free l ((x, y), t) = Vd.freeL (l.drop (k + 1)) (decide (k + 1 = 0)) true ((x, y), t)) := by
              rw [HR.out, h0]; simp [Hid]
            subst h0
            go_wp2
            go_roundw
            case rel => exact ⟨k + 1, true, by rw [HK.out]; rfl, rfl, by omega, HU2, R2, HR2⟩
            case measure => simp [intOf]; omega
          · have HR2 : Hid (Vd.free l ((x, y), t) = Vd.freeL (l.drop (k + 1)) (decide (k + 1 = 0)) f ((x, y), t)) := by
              rw [HR.out]; simp [Hid, h0]
            have h0' := beq_eq_false_iff_ne.2 h0
            go_wp2
            go_roundw
            case rel => exact ⟨k + 1, f, by rw [HK.out]; rfl, rfl, by omega, HU2, R2, HR2⟩
            case measure => simp [intOf]; omega
        · rw [decide_eq_false hk0] at HR
          have j1 : ((k : Int) == 0) = false := beq_eq_false_iff_ne.2 (by omega)
          have j2 : (0 : Int) < (k : Int) := by omega
          clear hk0
          by_cases h2 : P = 2
          · have HR2 : Hid (Vd.free l ((x, y), t) = Vd.freeL (l.drop (k + 1)) (decide (k + 1 = 0)) true ((x, y), t)) := by
              rw [HR.out, h2]; simp [Hid]
            subst h2
            go_wp2
            go_roundw
            case rel => exact ⟨k + 1, true, by go_num, rfl, by omega, HU2, R2, HR2⟩
            case measure => simp [intOf]; omega
          · have HR2 : Hid (Vd.free l ((x, y), t) = Vd.freeL (l.drop (k + 1)) (decide (k + 1 = 0)) f ((x, y), t)) := by
              rw [HR.out]; simp [Hid, h2]
            have h2' := beq_eq_false_iff_ne.2 h2
            go_wp2
            go_roundw
            case rel => exact ⟨k + 1, f, by go_num, rfl, by omega, HU2, R2, HR2⟩
            case measure => simp [intOf]; omega
    · have hk2 : k = l.length := by omega
      subst hk2
      rw [List.drop_length] at HE
      go_wp2
      go_ret
      exact ⟨ret_b HE.out.symm, HU.out⟩

set_option maxHeartbeats 4000000 in
theorem bounds_any (v u : Value) (a c : Poly) (w : World) (hv : Rd2 w v a) (hu : Rd2 w u c) (hl : a.length ≤ 1048576) (hl2 : ∀ r ∈ a, r.length ≤ 1048576) (hm : c.length ≤ 1048576) (hm2 : ∀ r ∈ c, r.length ≤ 1048576) (hc : Vd.CdL a) (hd : Vd.CdL c) :
    Calls Tryz.prog 125 #[v, u] w fun e w' => e = .returned (.bool (Vd.boundsX a c)) ∧ Up w w' := by
  obtain ⟨ao, cap, rfl, hM⟩ := hv
  obtain ⟨ao2, cap2, rfl, hM2⟩ := hu
  have HM := hide hM
  have HM2 := hide hM2
  have HC := hide hc
  have HL := hide hl2
  have HD := hide hd
  have HL2 := hide hm2
  have HT : Hid (Vd.boundsX a c = a.any fun r => c.any fun o => Vd.cross r o) := rfl
  generalize hf : (fun r => c.any fun o => Vd.cross r o) = f at *
  have HF : Hid (∀ s, f s = c.any fun o => Vd.cross s o) := by subst hf; exact fun _ => rfl
  clear hM hM2 hc hd hl2 hm2 hf
  go_enter Tryz.func125, Tryz.ntmps125
  go_wp2
  go_loopw [11] (fun i wr => ∃ k : Nat, i = .int .i64 k ∧ k ≤ a.length ∧ Hid (Up w wr) ∧ Hid ((a.take k).any f = false)) (fun i _ => a.length - (intOf i).toNat)
  case atStart => exact ⟨0, rfl, Nat.zero_le _, Up.refl _, rfl⟩
  case round =>
    obtain ⟨k, rfl, hk, HU, HA⟩ := hrel
    by_cases hlt : k < a.length
    · obtain ⟨r, hr⟩ := Pl.some_of_lt hlt
      obtain ⟨b, z, rfl, cu, hz⟩ := HM.out k r hr
      obtain ⟨za, zc, rfl, -⟩ := id hz
      have Hz := hide hz
      have cu2 := HU.out.cell cu
      have Hr := hide hr
      have HrL := hide (HL.out r (Pl.mem_of_some hr))
      have HrC := hide (HC.out r (Pl.mem_of_some hr))
      have HX := hide (Pl.any_take_succ f hr)
      clear hr cu hz
      go_wp2
      clear cu2
      go_loopw [17] (fun i wr => ∃ q : Nat, i = .int .i64 q ∧ q ≤ c.length ∧ Hid (Up w wr) ∧ Hid ((c.take q).any (fun o => Vd.cross r o) = false)) (fun i _ => c.length - (intOf i).toNat)
      case atStart => exact ⟨0, rfl, Nat.zero_le _, HU, rfl⟩
      case round =>
        clear HU
        obtain ⟨q, rfl, hq, HU, HB⟩ := hrel
        by_cases hlq : q < c.length
        · obtain ⟨o, ho⟩ := Pl.some_of_lt hlq
          obtain ⟨b', z', rfl, cu, hz⟩ := HM2.out q o ho
          have Hz2 := hide (hz.up HU.out)
          have HzU := hide (Hz.out.up HU.out)
          have cu2 := HU.out.cell cu
          have HoL := hide (HL2.out o (Pl.mem_of_some ho))
          have HoC := hide (HD.out o (Pl.mem_of_some ho))
          have HY := hide (Pl.any_take_succ (fun o => Vd.cross r o) ho)
          have Ho := hide ho
          clear ho cu hz
          cases hx : Vd.cross r o
          · have Hx := hide hx
            clear hx
            go_wp2_with (go_at_call 156; refine (cross_any _ _ r o _ HzU.out Hz2.out HrL.out HoL.out HrC.out HoC.out).mono ?_; rintro e w2 ⟨rfl, hz2⟩; rw [Hx.out]; replace hz2 := hide hz2)
            go_roundw
            case rel => exact ⟨q + 1, by go_num, by omega, HU.out.trans hz2.out, by rw [HY.out, HB.out, Hx.out]; exact rfl⟩
            case measure => simp [intOf]; omega
          · have Hx := hide hx
            have HR : Hid (Vd.boundsX a c = true) := by rw [HT.out]; exact Pl.any_true_of f Hr.out (by rw [HF.out]; exact Pl.any_true_of _ Ho.out hx)
            clear hx
            go_wp2_with (go_at_call 156; refine (cross_any _ _ r o _ HzU.out Hz2.out HrL.out HoL.out HrC.out HoC.out).mono ?_; rintro e w2 ⟨rfl, hz2⟩; rw [Hx.out]; replace hz2 := hide hz2)
            go_ret
            exact ⟨ret_b HR.out.symm, HU.out.trans hz2.out⟩
        · have hq2 : q = c.length := by omega
          subst hq2
          rw [List.take_length] at HB
          go_wp2
          go_roundw
          case rel => exact ⟨k + 1, by go_num, by omega, HU, by rw [HX.out, HA.out, HF.out, HB.out]; exact rfl⟩
          case measure => simp [intOf]; omega
    · have hk2 : k = a.length := by omega
      subst hk2
      rw [List.take_length] at HA
      have HR : Hid (Vd.boundsX a c = false) := by rw [HT.out]; exact HA.out
      go_wp2
      go_ret
      exact ⟨ret_b HR.out.symm, HU.out⟩
end Go.Proofs.YtcclepohmhdpbaaGreatDoor

/- THE WALKS: package clauses: enters, overlap. -/
namespace Go.Proofs.YtcclepohmhdpbaaGreatDoor
set_option linter.all false
open Go.RowKit Go.Deep

set_option maxHeartbeats 8000000 in
theorem enters_any (v u : Value) (a c : Poly) (w : World) (hv : Rd2 w v a) (hu : Rd2 w u c) (hl : a.length ≤ 1048576) (hl2 : ∀ r ∈ a, r.length ≤ 1048576) (hm : c.length ≤ 1048576) (hm2 : ∀ r ∈ c, r.length ≤ 1048576) (hmf : c.flatten.length ≤ 1048575) (hc : Vd.CdL a) (hd : Vd.CdL c) :
    Calls Tryz.prog 126 #[v, u] w fun e w' => e = .returned (.bool (Vd.enters a c)) ∧ Up w w' := by
  have HV2 := hide hu
  obtain ⟨ao, cap, rfl, hM⟩ := hv
  obtain ⟨ao2, cap2, rfl, -⟩ := hu
  have HM := hide hM
  have HC := hide hc
  have HL := hide hl2
  have HD := hide hd
  have HL2 := hide hm2
  have HMF := hide hmf
  have HT : Hid (Vd.enters a c = a.any fun r => (Vd.segs r).any fun s => (Vd.mids s c).any fun m => !(Vd.free c m)) := rfl
  generalize hh : (fun s => (Vd.mids s c).any fun m => !(Vd.free c m)) = h at *
  have HH : Hid (∀ s, h s = (Vd.mids s c).any fun m => !(Vd.free c m)) := by subst hh; exact fun _ => rfl
  clear hh
  generalize hf : (fun r => (Vd.segs r).any h) = f at *
  have HF : Hid (∀ r, f r = (Vd.segs r).any h) := by subst hf; exact fun _ => rfl
  clear hM hc hd hl2 hm2 hf hmf
  go_enter Tryz.func126, Tryz.ntmps126
  go_wp2
  go_loopw [13] (fun i wr => ∃ k : Nat, i = .int .i64 k ∧ k ≤ a.length ∧ Hid (Up w wr) ∧ Hid ((a.take k).any f = false)) (fun i _ => a.length - (intOf i).toNat)
  case atStart => exact ⟨0, rfl, Nat.zero_le _, Up.refl _, rfl⟩
  case round =>
    obtain ⟨k, rfl, hk, HU, HA⟩ := hrel
    by_cases hlt : k < a.length
    · obtain ⟨r, hr⟩ := Pl.some_of_lt hlt
      obtain ⟨b, z, rfl, cu, hz⟩ := HM.out k r hr
      have Hz := hide (hz.up HU.out)
      have cu2 := HU.out.cell cu
      have Hr := hide hr
      have HrL := hide (HL.out r (Pl.mem_of_some hr))
      have HC1 : Hid (∀ i s, (Vd.segs r)[i]? = some s → Vd.CdS s) := fun i s hs => Vd.segs_cd (HC.out r (Pl.mem_of_some Hr.out)) (Pl.mem_of_some hs)
      have HX := hide (Pl.any_take_succ f hr)
      have hsl : (Vd.segs r).length ≤ 1048576 := by rw [Vd.segs_len]; have := HrL.out; omega
      clear hr cu hz
      go_wp2_with fail
      refine (segments_any _ r _ Hz.out HrL.out).mono ?_
      rintro e w1 ⟨sv, rfl, hz1, ho⟩
      obtain ⟨sa, sc, es⟩ := own_len ho
      subst es
      have HR1 := hide (own_rdG (f := segC) (fun _ => rfl) ho)
      have HU1 := hide (HU.out.trans hz1)
      have HFr := hide (HF.out r)
      generalize Vd.segs r = L at *
      clear ho hz1 cu2
      go_wp2_with fail
      go_loopw [20] (fun i wr => ∃ q : Nat, i = .int .i64 q ∧ q ≤ L.length ∧ Hid (Up w1 wr) ∧ Hid ((L.take q).any h = false)) (fun i _ => L.length - (intOf i).toNat)
      case atStart => exact ⟨0, rfl, Nat.zero_le _, Up.refl _, rfl⟩
      case round =>
        clear HU
        obtain ⟨q, rfl, hq, HU, HB⟩ := hrel
        by_cases hlq : q < L.length
        · obtain ⟨⟨⟨ax, ay⟩, ⟨bx, bY⟩⟩, hs⟩ := Pl.some_of_lt hlq
          obtain ⟨g, cap', ev, c0, c1, c2, c3⟩ := (HR1.out.up HU.out).seg hs
          cases ev
          have HCk := hide (HC1.out _ _ hs)
          have Hk := hide hs
          have HY := hide (Pl.any_take_succ h hs)
          simp only at c0 c1 c2 c3
          clear hs
          go_wp2_with fail
          refine (middles_any ((ax, ay), (bx, bY)) _ c _ HCk.out ((HV2.out.up HU1.out).up (HU.out.alloc _)) hm HL2.out (by have := HMF.out; omega) HD.out).mono ?_
          rintro e w2 ⟨mv, rfl, hz2, ho⟩
          obtain ⟨ma, mc, es⟩ := own_len ho
          subst es
          have HR2 := hide (own_rdG (f := spotC) (fun _ => rfl) ho)
          have HU2 : Hid (Up w1 w2) := (HU.out.alloc _).trans hz2
          have HFk := hide (HH.out ((ax, ay), (bx, bY)))
          have HSp : Hid (∀ i m, (Vd.mids ((ax, ay), (bx, bY)) c)[i]? = some m → Vd.Sp m) := fun i m hm => Vd.mids_sp HCk.out HD.out m (Pl.mem_of_some hm)
          have hml : (Vd.mids ((ax, ay), (bx, bY)) c).length ≤ 1048576 := by
            have := Vd.mids_len ((ax, ay), (bx, bY)) c; have := HMF.out; omega
          generalize Vd.mids ((ax, ay), (bx, bY)) c = M at *
          clear ho hz2 c0 c1 c2 c3
          go_wp2_with fail
          go_loopw [28] (fun i wr => ∃ q : Nat, i = .int .i64 q ∧ q ≤ M.length ∧ Hid (Up w2 wr) ∧ Hid ((M.take q).any (fun m => !(Vd.free c m)) = false)) (fun i _ => M.length - (intOf i).toNat)
          case atStart => exact ⟨0, rfl, Nat.zero_le _, Up.refl _, rfl⟩
          case round =>
            obtain ⟨n, rfl, hn, HUn, HBn⟩ := hrel
            by_cases hln : n < M.length
            · obtain ⟨⟨⟨x, y⟩, t⟩, hs2⟩ := Pl.some_of_lt hln
              obtain ⟨g', cap'', ev, c0, c1, c2⟩ := (HR2.out.up HUn.out).spot hs2
              cases ev
              have HCn := hide (HSp.out _ _ hs2)
              have HZ := hide (Pl.any_take_succ (fun m => !(Vd.free c m)) hs2)
              simp only at c0 c1 c2
              have fin : Hid (Vd.free c ((x, y), t) = false → Vd.enters a c = true) := by
                intro hx
                rw [HT.out]
                exact Pl.any_true_of f Hr.out (by rw [HFr.out]; exact Pl.any_true_of h Hk.out (by rw [HFk.out]; exact Pl.any_true_of _ hs2 (by rw [hx]; rfl)))
              clear hs2
              cases hx : Vd.free c ((x, y), t)
              · have Hx := hide hx
                have HR := hide (fin.out hx)
                clear hx
                go_wp2_with (go_at_call 163; refine (free_any _ c ((x, y), t) _ ((HV2.out.up (HU1.out.trans (HU2.out.trans HUn.out))).up ((Up.refl _).alloc _)) hm HL2.out HD.out HCn.out).mono ?_; rintro e w3 ⟨rfl, hz3⟩; rw [Hx.out]; replace hz3 := hide hz3)
                go_ret
                exact ⟨ret_b HR.out.symm, ((HU1.out.trans HU2.out).trans (HUn.out.alloc _)).trans hz3.out⟩
              · have Hx := hide hx
                clear hx
                go_wp2_with (go_at_call 163; refine (free_any _ c ((x, y), t) _ ((HV2.out.up (HU1.out.trans (HU2.out.trans HUn.out))).up ((Up.refl _).alloc _)) hm HL2.out HD.out HCn.out).mono ?_; rintro e w3 ⟨rfl, hz3⟩; rw [Hx.out]; replace hz3 := hide hz3)
                go_roundw
                case rel => exact ⟨n + 1, by go_num, by omega, (HUn.out.alloc _).trans hz3.out, by rw [HZ.out, HBn.out, Hx.out]; exact rfl⟩
                case measure => simp [intOf]; omega
            · have hn2 : n = M.length := by omega
              subst hn2
              rw [List.take_length] at HBn
              go_wp2
              go_roundw
              case rel => exact ⟨q + 1, by go_num, by omega, HU2.out.trans HUn.out, by rw [HY.out, HB.out, HFk.out, HBn.out]; exact rfl⟩
              case measure => simp [intOf]; omega
        · have hq2 : q = L.length := by omega
          subst hq2
          rw [List.take_length] at HB
          go_wp2
          go_roundw
          case rel => exact ⟨k + 1, by go_num, by omega, HU1.out.trans HU.out, by rw [HX.out, HA.out, HFr.out, HB.out]; exact rfl⟩
          case measure => simp [intOf]; omega
    · have hk2 : k = a.length := by omega
      subst hk2
      rw [List.take_length] at HA
      have HR : Hid (Vd.enters a c = false) := by rw [HT.out]; exact HA.out
      go_wp2
      go_ret
      exact ⟨ret_b HR.out.symm, HU.out⟩

/-- the sizes of a set that can be asked. -/
structure Sz (m : Mult) : Prop where
  len : m.length ≤ 1048576
  poly : ∀ l ∈ m, l.length ≤ 1048576
  ring : ∀ l ∈ m, ∀ r ∈ l, r.length ≤ 1048575
  flat : ∀ l ∈ m, l.flatten.length ≤ 1048575
  cd : ∀ l ∈ m, Vd.CdL l
def ovG (m : Mult) (j i : Nat) : Bool := Vd.boundsX (Vd.pAt m i) (Vd.pAt m j) || Vd.enters (Vd.pAt m i) (Vd.pAt m j) || Vd.enters (Vd.pAt m j) (Vd.pAt m i)
def ovF (m : Mult) (j : Nat) : Bool := Vd.anyI j (ovG m j)
theorem overlap_F (m : Mult) : Vd.overlap m = Vd.anyI m.length (ovF m) := rfl
theorem pAt_some {m : Mult} {i : Nat} {l : Poly} (h : m[i]? = some l) : Vd.pAt m i = l := by unfold Vd.pAt; rw [List.getD_eq_getElem?_getD, h]; rfl
set_option maxHeartbeats 8000000 in
theorem overlap_any (v : Value) (m : Mult) (w : World) (hv : Rd3 w v m) (hz : Sz m) :
    Calls Tryz.prog 90 #[v] w fun e w' => e = .returned (.bool (Vd.overlap m)) ∧ Up w w' := by
  obtain ⟨ao, cap, rfl, hM⟩ := hv
  have HM := hide hM
  have HZ := hide hz
  have HS := hide (overlap_F m)
  have hl := hz.len
  clear hM hz
  go_enter Tryz.func90, Tryz.ntmps90
  go_wp2
  go_loopw [8] (fun i wr => ∃ k : Nat, i = .int .i64 k ∧ k ≤ m.length ∧ Hid (Up w wr) ∧ Hid (Vd.anyI k (ovF m) = false)) (fun i _ => m.length - (intOf i).toNat)
  case atStart => exact ⟨0, rfl, Nat.zero_le _, Up.refl _, rfl⟩
  case round =>
    obtain ⟨k, rfl, hk, HU, HA⟩ := hrel
    by_cases hlt : k < m.length
    · obtain ⟨r, hr⟩ := Pl.some_of_lt hlt
      obtain ⟨b, z, rfl, cu, hzr⟩ := HM.out k r hr
      obtain ⟨za, zc, rfl, -⟩ := id hzr
      have Hz := hide hzr
      have cu2 := HU.out.cell cu
      have Hr := hide hr
      have Hrm := hide (Pl.mem_of_some hr)
      clear hr cu hzr
      go_wp2
      clear cu2
      go_loopw [5] (fun i wr => ∃ q : Nat, i = .int .i64 q ∧ q ≤ k ∧ Hid (Up w wr) ∧ Hid (Vd.anyI q (ovG m k) = false)) (fun i _ => k - (intOf i).toNat)
      case atStart => exact ⟨0, rfl, Nat.zero_le _, HU, rfl⟩
      case round =>
        clear HU
        obtain ⟨q, rfl, hq, HU, HB⟩ := hrel
        by_cases hlq : q < k
        · obtain ⟨o, ho⟩ := Pl.some_of_lt (show q < m.length by omega)
          obtain ⟨b', z', e', cu, hzo⟩ := HM.out q o ho
          cases e'
          have Hz2 := hide (hzo.up HU.out)
          have HzU := hide (Hz.out.up HU.out)
          have cu2 := HU.out.cell cu
          have Hom := hide (Pl.mem_of_some ho)
          have HG : Hid (ovG m k q = (Vd.boundsX o r || Vd.enters o r || Vd.enters r o)) := by unfold ovG; rw [pAt_some ho, pAt_some Hr.out]; exact rfl
          have i1 : (q : Int) < (m.length : Int) := by omega
          have fin : Hid (ovG m k q = true → Vd.overlap m = true) := by
            intro h
            rw [HS.out]
            exact Vd.anyI_true (i := k) hlt (Vd.anyI_true (f := ovG m k) (i := q) hlq h)
          have R1 := hide (fun l (h : l ∈ m) r (hr : r ∈ l) => (show r.length ≤ 1048576 by have := HZ.out.ring l h r hr; omega))
          clear ho cu hzo
          go_wp2_with fail
          refine (bounds_any _ _ o r _ Hz2.out HzU.out (HZ.out.poly _ Hom.out) (R1.out _ Hom.out) (HZ.out.poly _ Hrm.out) (R1.out _ Hrm.out) (HZ.out.cd _ Hom.out) (HZ.out.cd _ Hrm.out)).mono ?_
          rintro e w2 ⟨rfl, hz2⟩
          have HU2 := hide (HU.out.trans hz2)
          have cu3 := hz2.cell cu2
          have Y2 := hide (Hz2.out.up hz2)
          have X2 := hide (HzU.out.up hz2)
          clear hz2 cu2
          cases hx : Vd.boundsX o r
          · rw [hx] at HG
            clear hx
            go_wp2_with fail
            refine (enters_any _ _ o r _ Y2.out X2.out (HZ.out.poly _ Hom.out) (R1.out _ Hom.out) (HZ.out.poly _ Hrm.out) (R1.out _ Hrm.out) (HZ.out.flat _ Hrm.out) (HZ.out.cd _ Hom.out) (HZ.out.cd _ Hrm.out)).mono ?_
            rintro e w3 ⟨rfl, hz3⟩
            have HU3 := hide (HU2.out.trans hz3)
            have cu4 := hz3.cell cu3
            have Y3 := hide (Y2.out.up hz3)
            have X3 := hide (X2.out.up hz3)
            clear hz3 cu3
            cases hx : Vd.enters o r
            · rw [hx] at HG
              clear hx
              go_wp2_with fail
              refine (enters_any _ _ r o _ X3.out Y3.out (HZ.out.poly _ Hrm.out) (R1.out _ Hrm.out) (HZ.out.poly _ Hom.out) (R1.out _ Hom.out) (HZ.out.flat _ Hom.out) (HZ.out.cd _ Hrm.out) (HZ.out.cd _ Hom.out)).mono ?_
              rintro e w4 ⟨rfl, hz4⟩
              have HU4 := hide (HU3.out.trans hz4)
              clear hz4 cu4
              cases hx : Vd.enters r o
              · rw [hx] at HG
                have HGf : Hid (ovG m k q = false) := HG.out
                clear hx
                go_wp2
                go_roundw
                case rel => exact ⟨q + 1, by go_num, by omega, HU4, anyI_step HB.out HGf.out⟩
                case measure => simp [intOf]; omega
              · rw [hx] at HG
                have HR := hide (fin.out HG.out)
                clear hx
                go_wp2
                go_ret
                exact ⟨ret_b HR.out.symm, HU4.out⟩
            · rw [hx] at HG
              have HR := hide (fin.out (by rw [HG.out]; rfl))
              clear hx
              go_wp2
              go_ret
              exact ⟨ret_b HR.out.symm, HU3.out⟩
          · rw [hx] at HG
            have HR := hide (fin.out (by rw [HG.out]; rfl))
            clear hx
            go_wp2
            go_ret
            exact ⟨ret_b HR.out.symm, HU2.out⟩
        · have hq2 : q = k := by omega
          subst hq2
          go_wp2
          go_roundw
          case rel => exact ⟨q + 1, by go_num, by omega, HU, anyI_step HA.out HB.out⟩
          case measure => simp [intOf]; omega
    · have hk2 : k = m.length := by omega
      subst hk2
      have HR : Hid (Vd.overlap m = false) := by rw [HS.out]; exact HA.out
      go_wp2
      go_ret
      exact ⟨ret_b HR.out.symm, HU.out⟩
end Go.Proofs.YtcclepohmhdpbaaGreatDoor

/- THE WALKS: package canon: compareRings, comparePolygons, countAhead. -/
namespace Go.Proofs.YtcclepohmhdpbaaGreatDoor
set_option linter.all false
open Go.RowKit Go.Deep

theorem cmpR_cons (p q : Pnt) (t u : Ring) : Vd.cmpR (p :: t) (q :: u) = if Vd.bef q p then 1 else if Vd.bef p q then -1 else Vd.cmpR t u := by rw [Vd.cmpR]
theorem dropc {α : Type} {l : List α} {k : Nat} {x : α} (h : l[k]? = some x) : l.drop k = x :: l.drop (k + 1) := by
  have hk := Pl.lt_of_some h
  rw [List.drop_eq_getElem_cons hk]
  rw [List.getElem?_eq_getElem hk] at h
  rw [Option.some.inj h]
theorem cmpR_left (p : Pnt) (t : Ring) : Vd.cmpR (p :: t) [] = 1 := by rw [Vd.cmpR]
theorem cmpR_end (u : Ring) : Vd.cmpR [] u = if 0 < u.length then -1 else 0 := by cases u <;> simp [Vd.cmpR]
set_option maxRecDepth 8000 in
set_option maxHeartbeats 4000000 in
theorem compareRings_any (v u : Value) (a b : Ring) (w : World) (hv : Rd1 w v a) (hu : Rd1 w u b) (ha : a.length ≤ 1048576) (hb : b.length ≤ 1048576) :
    Calls Tryz.prog 237 #[v, u] w fun e w' => e = .returned (.int .i64 (Vd.cmpR a b)) ∧ Up w w' := by
  obtain ⟨ao, cap, rfl, hm⟩ := hv
  obtain ⟨ao2, cap2, rfl, hm2⟩ := hu
  have HM := hide hm
  have HM2 := hide hm2
  have HX := hide cmpR_cons
  clear hm hm2
  go_enter Tryz.func237, Tryz.ntmps237
  go_wp2
  go_loopw [9] (fun i wr => ∃ k : Nat, i = .int .i64 k ∧ k ≤ a.length ∧ k ≤ b.length ∧ Hid (Up w wr) ∧ Hid (Vd.cmpR a b = Vd.cmpR (a.drop k) (b.drop k))) (fun i _ => a.length - (intOf i).toNat)
  case atStart => exact ⟨0, rfl, Nat.zero_le _, Nat.zero_le _, Up.refl _, rfl⟩
  case round =>
    obtain ⟨k, rfl, hk, hk2, HU, HE⟩ := hrel
    by_cases hlt : k < a.length
    · obtain ⟨⟨px, py⟩, hp⟩ := Pl.some_of_lt hlt
      obtain ⟨g, rfl, c0, c1⟩ := HM.out k _ hp
      rw [dropc hp] at HE
      have e0 := HU.out.cell c0
      have e1 := HU.out.cell c1
      have HUT : Hid (Up wr (wr.alloc (.cells #[.int .i64 px, .int .i64 py] 32))) := (Up.refl _).alloc _
      have RN := hide (new_row (w := wr) (o := .cells #[.int .i64 px, .int .i64 py] 32) (vs := [.int .i64 px, .int .i64 py]) rfl)
      have q0 := RN.out.gr (i := 0) rfl
      have q1 := RN.out.gr (i := 1) rfl
      have i1 : (0 : Int) ≤ (k : Int) := by omega
      have i2 : (k : Int) < (a.length : Int) := by omega
      try dsimp only at e0 e1 q0 q1
      clear hp c0 c1
      by_cases hkb : k = b.length
      · have hkb' : ((k : Int) == (b.length : Int)) = true := beq_iff_eq.2 (by omega)
        have HR : Hid (Vd.cmpR a b = 1) := by rw [HE.out, hkb, List.drop_length, cmpR_left]; exact rfl
        clear hkb
        go_upto_region 4 with fail
        refine wp_region_up (by kernel_rfl) (by kernel_rfl) ?_
        repeat (first | go_big_quiet_step (fail))
        refine wpQuiet_nil ?_
        rintro w3 ⟨⟨_, u3⟩, rfl⟩
        have HU3 := hide (HU.out.trans (HUT.out.trans u3))
        clear u3 e0 e1 q0 q1
        go_wp2
        go_ret
        exact ⟨ret_i HR.out.symm, HU3.out⟩
      · have hkb' : ((k : Int) == (b.length : Int)) = false := beq_eq_false_iff_ne.2 (by omega)
        obtain ⟨⟨qx, qy⟩, hq⟩ := Pl.some_of_lt (show k < b.length by omega)
        obtain ⟨g2, rfl, d0, d1⟩ := HM2.out k _ hq
        rw [dropc hq, HX.out] at HE
        have D0 := hide (HUT.out.cell (HU.out.cell d0))
        have D1 := hide (HUT.out.cell (HU.out.cell d1))
        have g0 := cell_gr D0.out
        have g1 := cell_gr D1.out
        have i3 : (k : Int) < (b.length : Int) := by omega
        have HK : Hid (∀ g : Gr (wr.alloc (.cells #[.int .i64 px, .int .i64 py] 32)), Calls Tryz.prog 236 #[.agg #[.int .i64 qx, .int .i64 qy], .agg #[.int .i64 px, .int .i64 py]] g.v fun e w' => e = .returned (.bool (decide (Vd.bef (qx, qy) (px, py)))) ∧ Up g.v w') := fun g => before_any (qx, qy) (px, py) g.v
        try dsimp only at g0 g1
        clear hq d0 d1 hkb
        generalize hW : wr.alloc (.cells #[.int .i64 px, .int .i64 py] 32) = W at *
        by_cases hb1 : Vd.bef (qx, qy) (px, py)
        · rw [decide_eq_true hb1] at HK
          have HR : Hid (Vd.cmpR a b = 1) := by rw [HE.out, if_pos hb1]; exact rfl
          clear hb1
          go_upto_region 4 with fail
          refine wp_region_up (by kernel_rfl) (by kernel_rfl) ?_
          repeat (first | go_big_quiet_step ((go_at_call 236; exact Calls.up_of (HK.out _))))
          refine wpQuiet_nil ?_
          rintro w3 ⟨⟨_, u3⟩, rfl⟩
          have HU3 := hide (HU.out.trans (HUT.out.trans u3))
          clear u3 e0 e1 q0 q1 g0 g1 HK hW
          go_wp2
          go_ret
          exact ⟨ret_i HR.out.symm, HU3.out⟩
        · rw [decide_eq_false hb1] at HK
          rw [if_neg hb1] at HE
          clear hb1
          go_upto_region 4 with fail
          refine wp_region_up (by kernel_rfl) (by kernel_rfl) ?_
          repeat (first | go_big_quiet_step ((go_at_call 236; exact Calls.up_of (HK.out _))))
          refine wpQuiet_nil ?_
          rintro w3 ⟨⟨_, u3⟩, rfl⟩
          have HU3 := hide (HU.out.trans (HUT.out.trans u3))
          have g0' := cell_gr (u3.cell D0.out)
          have g1' := cell_gr (u3.cell D1.out)
          have q0' := (RN.out.up u3).gr (i := 0) rfl
          have q1' := (RN.out.up u3).gr (i := 1) rfl
          try dsimp only at g0' g1' q0' q1'
          clear u3 e0 e1 q0 q1 g0 g1 HK
          have HK : Hid (∀ g : Gr w3, Calls Tryz.prog 236 #[.agg #[.int .i64 px, .int .i64 py], .agg #[.int .i64 qx, .int .i64 qy]] g.v fun e w' => e = .returned (.bool (decide (Vd.bef (px, py) (qx, qy)))) ∧ Up g.v w') := fun g => before_any (px, py) (qx, qy) g.v
          by_cases hb2 : Vd.bef (px, py) (qx, qy)
          · rw [decide_eq_true hb2] at HK
            have HR : Hid (Vd.cmpR a b = -1) := by rw [HE.out, if_pos hb2]; exact rfl
            clear hb2 hW
            go_upto_region 6 with fail
            refine wp_region_up (by kernel_rfl) (by kernel_rfl) ?_
            repeat (first | go_big_quiet_step ((go_at_call 236; exact Calls.up_of (HK.out _))))
            refine wpQuiet_nil ?_
            rintro w4 ⟨⟨_, u4⟩, rfl⟩
            have HU4 := hide (HU3.out.trans u4)
            clear u4 q0' q1' g0' g1' HK
            go_wp2
            go_ret
            exact ⟨ret_i HR.out.symm, HU4.out⟩
          · rw [decide_eq_false hb2] at HK
            rw [if_neg hb2] at HE
            clear hb2 hW
            go_upto_region 6 with fail
            refine wp_region_up (by kernel_rfl) (by kernel_rfl) ?_
            repeat (first | go_big_quiet_step ((go_at_call 236; exact Calls.up_of (HK.out _))))
            refine wpQuiet_nil ?_
            rintro w4 ⟨⟨_, u4⟩, rfl⟩
            have HU4 := hide (HU3.out.trans u4)
            clear u4 q0' q1' g0' g1' HK
            go_wp2
            go_roundw
            case rel => exact ⟨k + 1, by go_num, by omega, by omega, HU4, HE⟩
            case measure => simp [intOf]; omega
    · have e1 : a.drop k = [] := List.drop_eq_nil_of_le (by omega)
      have hka : k = a.length := by omega
      have i2 : ¬ (k : Int) < (a.length : Int) := by omega
      rw [e1, cmpR_end, List.length_drop] at HE
      clear e1
      by_cases hl : a.length < b.length
      · have HR : Hid (Vd.cmpR a b = -1) := by rw [HE.out, if_pos (by omega)]; exact rfl
        have i3 : (a.length : Int) < (b.length : Int) := by omega
        clear hka
        go_wp2
        go_ret
        exact ⟨ret_i HR.out.symm, HU.out⟩
      · have HR : Hid (Vd.cmpR a b = 0) := by rw [HE.out, if_neg (by omega)]; exact rfl
        have i3 : ¬ (a.length : Int) < (b.length : Int) := by omega
        clear hka
        go_wp2
        go_ret
        exact ⟨ret_i HR.out.symm, HU.out⟩

theorem cmpP_cons (p q : Ring) (t u : Poly) : Vd.cmpP (p :: t) (q :: u) = if Vd.cmpR p q ≠ 0 then Vd.cmpR p q else Vd.cmpP t u := by rw [Vd.cmpP]
theorem cmpP_left (p : Ring) (t : Poly) : Vd.cmpP (p :: t) [] = 1 := by rw [Vd.cmpP]
theorem cmpP_end (u : Poly) : Vd.cmpP [] u = if 0 < u.length then -1 else 0 := by cases u <;> simp [Vd.cmpP]
set_option maxRecDepth 8000 in
set_option maxHeartbeats 4000000 in
theorem comparePolygons_any (v u : Value) (a b : Poly) (w : World) (hv : Rd2 w v a) (hu : Rd2 w u b) (ha : a.length ≤ 1048576) (hb : b.length ≤ 1048576) (hra : ∀ r ∈ a, r.length ≤ 1048576) (hrb : ∀ r ∈ b, r.length ≤ 1048576) :
    Calls Tryz.prog 208 #[v, u] w fun e w' => e = .returned (.int .i64 (Vd.cmpP a b)) ∧ Up w w' := by
  obtain ⟨ao, cap, rfl, hm⟩ := hv
  obtain ⟨ao2, cap2, rfl, hm2⟩ := hu
  have HM := hide hm
  have HM2 := hide hm2
  have HA := hide hra
  have HB := hide hrb
  have HX := hide cmpP_cons
  clear hm hm2 hra hrb
  go_enter Tryz.func208, Tryz.ntmps208
  go_wp2
  go_loopw [10] (fun i wr => ∃ k : Nat, i = .int .i64 k ∧ k ≤ a.length ∧ k ≤ b.length ∧ Hid (Up w wr) ∧ Hid (Vd.cmpP a b = Vd.cmpP (a.drop k) (b.drop k))) (fun i _ => a.length - (intOf i).toNat)
  case atStart => exact ⟨0, rfl, Nat.zero_le _, Nat.zero_le _, Up.refl _, rfl⟩
  case round =>
    obtain ⟨k, rfl, hk, hk2, HU, HE⟩ := hrel
    by_cases hlt : k < a.length
    · obtain ⟨p, hp⟩ := Pl.some_of_lt hlt
      obtain ⟨g, y, rfl, c0, hy⟩ := HM.out k _ hp
      rw [dropc hp] at HE
      have e0 := HU.out.cell c0
      have Hy := hide (hy.up HU.out)
      have Hpl := hide (HA.out p (Pl.mem_of_some hp))
      have i1 : (0 : Int) ≤ (k : Int) := by omega
      have i2 : (k : Int) < (a.length : Int) := by omega
      clear hp c0 hy
      by_cases hkb : k = b.length
      · have hkb' : ((k : Int) == (b.length : Int)) = true := beq_iff_eq.2 (by omega)
        have HR : Hid (Vd.cmpP a b = 1) := by rw [HE.out, hkb, List.drop_length, cmpP_left]; exact rfl
        clear hkb
        go_wp2
        go_ret
        exact ⟨ret_i HR.out.symm, HU.out⟩
      · have hkb' : ((k : Int) == (b.length : Int)) = false := beq_eq_false_iff_ne.2 (by omega)
        obtain ⟨q, hq⟩ := Pl.some_of_lt (show k < b.length by omega)
        obtain ⟨g2, z, rfl, d0, hz⟩ := HM2.out k _ hq
        rw [dropc hq, HX.out] at HE
        have e1 := HU.out.cell d0
        have Hz := hide (hz.up HU.out)
        have Hql := hide (HB.out q (Pl.mem_of_some hq))
        have i3 : (k : Int) < (b.length : Int) := by omega
        clear hq d0 hz hkb
        go_wp2_with fail
        refine (compareRings_any _ _ p q _ Hy.out Hz.out Hpl.out Hql.out).mono ?_
        rintro e w2 ⟨rfl, hu2⟩
        have HU2 := hide (HU.out.trans hu2)
        generalize Vd.cmpR p q = X at *
        clear hu2 e0 e1
        by_cases hX : X = 0
        · rw [if_neg (by simpa using hX)] at HE
          subst hX
          go_wp2
          go_roundw
          case rel => exact ⟨k + 1, by go_num, by omega, by omega, HU2, HE⟩
          case measure => simp [intOf]; omega
        · rw [if_pos hX] at HE
          have hX1 := bne_iff_ne.2 hX
          have hX2 := beq_eq_false_iff_ne.2 hX
          go_wp2
          go_ret
          exact ⟨ret_i HE.out.symm, HU2.out⟩
    · have e1 : a.drop k = [] := List.drop_eq_nil_of_le (by omega)
      have hka : k = a.length := by omega
      have i2 : ¬ (k : Int) < (a.length : Int) := by omega
      rw [e1, cmpP_end, List.length_drop] at HE
      clear e1
      by_cases hl : a.length < b.length
      · have HR : Hid (Vd.cmpP a b = -1) := by rw [HE.out, if_pos (by omega)]; exact rfl
        have i3 : (a.length : Int) < (b.length : Int) := by omega
        clear hka
        go_wp2
        go_ret
        exact ⟨ret_i HR.out.symm, HU.out⟩
      · have HR : Hid (Vd.cmpP a b = 0) := by rw [HE.out, if_neg (by omega)]; exact rfl
        have i3 : ¬ (a.length : Int) < (b.length : Int) := by omega
        clear hka
        go_wp2
        go_ret
        exact ⟨ret_i HR.out.symm, HU.out⟩

theorem cntA_succ (m : Mult) (a n : Nat) : Vd.cntA m a (n + 1) = Vd.cntA m a n + (if Vd.isA m a n = true then 1 else 0) := by
  unfold Vd.cntA; rw [List.range_succ, List.countP_append, List.countP_singleton]
theorem cntA_le (m : Mult) (a : Nat) : ∀ n, Vd.cntA m a n ≤ n := fun n => by unfold Vd.cntA; have := List.countP_le_length (p := Vd.isA m a) (l := List.range n); simpa using this
theorem isA_at {m : Mult} {a i : Nat} {p q : Poly} (hp : m[i]? = some p) (hq : m[a]? = some q) : Vd.isA m a i = (decide (Vd.cmpP p q < 0) || (decide (Vd.cmpP p q = 0) && decide (i < a))) := by unfold Vd.isA; rw [pAt_some hp, pAt_some hq]
set_option maxRecDepth 8000 in
set_option maxHeartbeats 4000000 in
theorem countAhead_any (v : Value) (m : Mult) (a : Nat) (w : World) (hv : Rd3 w v m) (ha : a < m.length) (hm : m.length ≤ 1048576) (hl : ∀ l ∈ m, l.length ≤ 1048576) (hr : ∀ l ∈ m, ∀ r ∈ l, r.length ≤ 1048576) :
    Calls Tryz.prog 168 #[v, .int .i64 a] w fun e w' => e = .returned (.int .i64 (Vd.cntA m a m.length)) ∧ Up w w' := by
  obtain ⟨ao, cap, rfl, hM⟩ := hv
  have HM := hide hM
  have HL := hide hl
  have HR := hide hr
  have HS := hide (fun n => cntA_succ m a n)
  have HLe := hide (fun n => cntA_le m a n)
  obtain ⟨q, hq⟩ := Pl.some_of_lt ha
  obtain ⟨g, z, rfl, d0, hz⟩ := hM a q hq
  have Hq := hide hq
  have D0 := hide d0
  have Hz := hide hz
  have i3 : (0 : Int) ≤ (a : Int) := by omega
  have i4 : (a : Int) < (m.length : Int) := by omega
  clear hM hl hr hq d0 hz
  go_enter Tryz.func168, Tryz.ntmps168
  go_wp2
  go_loopw [5, 11] (fun cv i wr => ∃ k c : Nat, i = .int .i64 k ∧ cv = .int .i64 c ∧ k ≤ m.length ∧ c ≤ k ∧ Hid (Up w wr) ∧ Hid (c = Vd.cntA m a k)) (fun _ i _ => m.length - (intOf i).toNat)
  case atStart => exact ⟨0, 0, rfl, rfl, Nat.zero_le _, Nat.zero_le _, Up.refl _, rfl⟩
  case round =>
    obtain ⟨k, c, rfl, rfl, hk, hck, HU, HE⟩ := hrel
    by_cases hlt : k < m.length
    · obtain ⟨p, hp⟩ := Pl.some_of_lt hlt
      obtain ⟨g', y, e', c0, hy⟩ := HM.out k _ hp
      cases e'
      have e0 := HU.out.cell c0
      have e1 := HU.out.cell D0.out
      have Hy := hide (hy.up HU.out)
      have Hz2 := hide (Hz.out.up HU.out)
      have HI := hide (isA_at hp Hq.out)
      have Hpm := hide (Pl.mem_of_some hp)
      have Hqm := hide (Pl.mem_of_some Hq.out)
      have i1 : (0 : Int) ≤ (k : Int) := by omega
      have i2 : (k : Int) < (m.length : Int) := by omega
      clear hp c0 hy
      go_wp2_with fail
      refine (comparePolygons_any _ _ p q _ Hy.out Hz2.out (HL.out p Hpm.out) (HL.out q Hqm.out) (HR.out p Hpm.out) (HR.out q Hqm.out)).mono ?_
      rintro e w2 ⟨rfl, hu2⟩
      have HU2 := hide (HU.out.trans hu2)
      generalize Vd.cmpP p q = X at *
      clear hu2 e0 e1
      have HSk := hide (HS.out k)
      rw [HI.out, ← HE.out] at HSk
      by_cases hX : X < 0
      · have HE2 : Hid (c + 1 = Vd.cntA m a (k + 1)) := by rw [HSk.out]; simp [hX, Hid]
        go_wp2
        go_roundw
        case rel => exact ⟨k + 1, c + 1, by go_num, by go_num, by omega, by omega, HU2, HE2⟩
        case measure => simp [intOf]; omega
      · by_cases hX0 : X = 0
        · by_cases hka : k < a
          · have HE2 : Hid (c + 1 = Vd.cntA m a (k + 1)) := by rw [HSk.out]; simp [hX0, hka, Hid]
            have i5 : (k : Int) < (a : Int) := by omega
            subst hX0
            go_wp2
            go_roundw
            case rel => exact ⟨k + 1, c + 1, by go_num, by go_num, by omega, by omega, HU2, HE2⟩
            case measure => simp [intOf]; omega
          · have HE2 : Hid (c = Vd.cntA m a (k + 1)) := by rw [HSk.out]; simp [hX0, hka, Hid]
            have i5 : ¬ (k : Int) < (a : Int) := by omega
            subst hX0
            go_wp2
            go_roundw
            case rel => exact ⟨k + 1, c, by go_num, rfl, by omega, by omega, HU2, HE2⟩
            case measure => simp [intOf]; omega
        · have HE2 : Hid (c = Vd.cntA m a (k + 1)) := by rw [HSk.out]; simp [hX, hX0, Hid]
          have hX2 := beq_eq_false_iff_ne.2 hX0
          go_wp2
          go_roundw
          case rel => exact ⟨k + 1, c, by go_num, rfl, by omega, by omega, HU2, HE2⟩
          case measure => simp [intOf]; omega
    · have hk2 : k = m.length := by omega
      have HRr : Hid (c = Vd.cntA m a m.length) := by rw [HE.out, hk2]; exact rfl
      have i2 : ¬ (k : Int) < (m.length : Int) := by omega
      clear hk2
      go_wp2
      go_ret
      exact ⟨ret_i (by rw [HRr.out]), HU.out⟩
end Go.Proofs.YtcclepohmhdpbaaGreatDoor

/- THE DOCUMENT's WALKS: less, first. -/
namespace Go.Proofs.YtcclepohmhdpbaaGreatDoor
set_option linter.all false
open Go.RowKit Go.Deep

theorem cmpR_x {px py qx qy : Int} (t u : Ring) (h : px ≠ qx) : decide (Vd.cmpR ((px, py) :: t) ((qx, qy) :: u) < 0) = decide (px < qx) := by
  rw [cmpR_cons]
  apply decide_eq_decide.2
  by_cases c : Vd.bef (qx, qy) (px, py)
  · rw [if_pos c]; unfold Vd.bef at c; simp only at c; omega
  · rw [if_neg c]
    by_cases d : Vd.bef (px, py) (qx, qy)
    · rw [if_pos d]; unfold Vd.bef at d; simp only at d; omega
    · exfalso; unfold Vd.bef at c d; simp only at c d; omega
theorem cmpR_y {px py qy : Int} (t u : Ring) (h : py ≠ qy) : decide (Vd.cmpR ((px, py) :: t) ((px, qy) :: u) < 0) = decide (py < qy) := by
  rw [cmpR_cons]
  apply decide_eq_decide.2
  by_cases c : qy < py
  · rw [if_pos (show Vd.bef (px, qy) (px, py) from .inr ⟨rfl, c⟩)]; omega
  · rw [if_neg (fun k => by rcases k with k | ⟨-, k⟩ <;> simp only at k <;> omega), if_pos (show Vd.bef (px, py) (px, qy) from .inr ⟨rfl, by show py < qy; omega⟩)]; omega
theorem cmpR_same (p : Pnt) (t u : Ring) : Vd.cmpR (p :: t) (p :: u) = Vd.cmpR t u := by
  rw [cmpR_cons, if_neg (by unfold Vd.bef; omega), if_neg (by unfold Vd.bef; omega)]
theorem cmpR_ends {a b : Ring} (h : a = [] ∨ b = []) : decide (Vd.cmpR a b < 0) = decide (a.length < b.length) := by
  cases a with
  | nil => cases b <;> simp [Vd.cmpR]
  | cons p t =>
    cases b with
    | nil => simp [Vd.cmpR]
    | cons q u => simp at h
set_option maxRecDepth 8000 in
set_option maxHeartbeats 4000000 in
theorem less_any (v u : Value) (a b : Ring) (w : World) (hv : Rd1 w v a) (hu : Rd1 w u b) (ha : a.length ≤ 1048576) (hb : b.length ≤ 1048576) :
    Calls Tryz.prog 54 #[v, u] w fun e w' => e = .returned (.bool (decide (Vd.cmpR a b < 0))) ∧ Up w w' := by
  obtain ⟨ao, cap, rfl, hm⟩ := hv
  obtain ⟨ao2, cap2, rfl, hm2⟩ := hu
  have HM := hide hm
  have HM2 := hide hm2
  clear hm hm2
  go_enter Tryz.func54, Tryz.ntmps54
  go_wp2
  go_loopw [5] (fun i wr => ∃ k : Nat, i = .int .i64 k ∧ k ≤ a.length ∧ k ≤ b.length ∧ Hid (Up w wr) ∧ Hid (Vd.cmpR a b = Vd.cmpR (a.drop k) (b.drop k))) (fun i _ => a.length - (intOf i).toNat)
  case atStart => exact ⟨0, rfl, Nat.zero_le _, Nat.zero_le _, Up.refl _, rfl⟩
  case round =>
    obtain ⟨k, rfl, hk, hk2, HU, HE⟩ := hrel
    have i1 : (0 : Int) ≤ (k : Int) := by omega
    by_cases hlt : k < a.length ∧ k < b.length
    · obtain ⟨⟨px, py⟩, hp⟩ := Pl.some_of_lt hlt.1
      obtain ⟨⟨qx, qy⟩, hq⟩ := Pl.some_of_lt hlt.2
      obtain ⟨g, rfl, c0, c1⟩ := HM.out k _ hp
      obtain ⟨g2, rfl, d0, d1⟩ := HM2.out k _ hq
      rw [dropc hp, dropc hq] at HE
      have C1 := hide (HU.out.cell c1)
      have D1 := hide (HU.out.cell d1)
      have e0 := cell_gr (HU.out.cell c0)
      have f0 := cell_gr (HU.out.cell d0)
      have C0 := hide (HU.out.cell c0)
      have D0 := hide (HU.out.cell d0)
      have i2 : (k : Int) < (a.length : Int) := by omega
      have i3 : (k : Int) < (b.length : Int) := by omega
      try dsimp only at e0 f0
      clear hp hq c0 c1 d0 d1
      go_upto_region 4 with fail
      refine wp_region_up (by kernel_rfl) (by kernel_rfl) ?_
      repeat (first | go_big_quiet_step (fail))
      refine wpQuiet_nil ?_
      rintro w3 ⟨⟨_, u3⟩, rfl⟩
      have HU3 := hide (HU.out.trans u3)
      have HA3 := hide u3
      clear u3 e0 f0
      by_cases hx : px = qx
      · subst hx
        have e1 := cell_gr (HA3.out.cell C1.out)
        have f1 := cell_gr (HA3.out.cell D1.out)
        try dsimp only at e1 f1
        go_upto_region 6 with fail
        refine wp_region_up (by kernel_rfl) (by kernel_rfl) ?_
        repeat (first | go_big_quiet_step (fail))
        refine wpQuiet_nil ?_
        rintro w4 ⟨⟨_, u4⟩, rfl⟩
        have HU4 := hide (HU3.out.trans u4)
        have HA4 := hide (HA3.out.trans u4)
        clear e1 f1 u4
        by_cases hy : py = qy
        · subst hy
          rw [cmpR_same] at HE
          go_wp2
          go_roundw
          case rel => exact ⟨k + 1, by go_num, by omega, by omega, HU4, HE⟩
          case measure => simp [intOf]; omega
        · have HR : Hid (decide (Vd.cmpR a b < 0) = decide (py < qy)) := by rw [HE.out]; exact cmpR_y _ _ hy
          have hy1 := bne_iff_ne.2 hy
          have hy2 := beq_eq_false_iff_ne.2 hy
          have e1 := cell_gr (HA4.out.cell C1.out)
          have f1 := cell_gr (HA4.out.cell D1.out)
          try dsimp only at e1 f1
          go_upto_region 7 with fail
          refine wp_region_up (by kernel_rfl) (by kernel_rfl) ?_
          repeat (first | go_big_quiet_step (fail))
          refine wpQuiet_nil ?_
          rintro w5 ⟨⟨_, u5⟩, rfl⟩
          have HU5 := hide (HU4.out.trans u5)
          clear e1 f1 u5
          go_wp2
          go_ret
          exact ⟨ret_b (by rw [HR.out]), HU5.out⟩
      · have HR : Hid (decide (Vd.cmpR a b < 0) = decide (px < qx)) := by rw [HE.out]; exact cmpR_x _ _ hx
        have hx1 := bne_iff_ne.2 hx
        have hx2 := beq_eq_false_iff_ne.2 hx
        have e1 := cell_gr (HA3.out.cell C0.out)
        have f1 := cell_gr (HA3.out.cell D0.out)
        try dsimp only at e1 f1
        go_upto_region 5 with fail
        refine wp_region_up (by kernel_rfl) (by kernel_rfl) ?_
        repeat (first | go_big_quiet_step (fail))
        refine wpQuiet_nil ?_
        rintro w5 ⟨⟨_, u5⟩, rfl⟩
        have HU5 := hide (HU3.out.trans u5)
        clear e1 f1 u5
        go_wp2
        go_ret
        exact ⟨ret_b (by rw [HR.out]), HU5.out⟩
    · have HR : Hid (decide (Vd.cmpR a b < 0) = decide (a.length < b.length)) := by
        rw [HE.out, cmpR_ends (by
          rcases Nat.lt_or_ge k a.length with g | g
          · exact .inr (List.drop_eq_nil_of_le (by omega))
          · exact .inl (List.drop_eq_nil_of_le g)), List.length_drop, List.length_drop]
        exact decide_eq_decide.2 (by omega)
      by_cases g : k < a.length
      · have i2 : (k : Int) < (a.length : Int) := by omega
        have i3 : ¬ (k : Int) < (b.length : Int) := by omega
        go_wp2
        go_ret
        exact ⟨ret_b (by rw [HR.out]), HU.out⟩
      · have i2 : ¬ (k : Int) < (a.length : Int) := by omega
        go_wp2
        go_ret
        exact ⟨ret_b (by rw [HR.out]), HU.out⟩

theorem cmpP_x {p q : Ring} (t u : Poly) (h : Vd.cmpR p q ≠ 0) : Vd.cmpP (p :: t) (q :: u) = Vd.cmpR p q := by rw [cmpP_cons, if_pos h]
theorem cmpP_same {p q : Ring} (t u : Poly) (h : Vd.cmpR p q = 0) : Vd.cmpP (p :: t) (q :: u) = Vd.cmpP t u := by rw [cmpP_cons, if_neg (by omega)]
theorem cmpP_ends {a b : Poly} (h : a = [] ∨ b = []) : decide (Vd.cmpP a b < 0) = decide (a.length < b.length) := by
  cases a with
  | nil => cases b <;> simp [Vd.cmpP]
  | cons p t =>
    cases b with
    | nil => simp [Vd.cmpP]
    | cons q u => simp at h
set_option maxRecDepth 8000 in
set_option maxHeartbeats 4000000 in
theorem first_any (anti : ∀ p q, Vd.cmpR p q = -(Vd.cmpR q p)) (v u : Value) (a b : Poly) (w : World) (hv : Rd2 w v a) (hu : Rd2 w u b) (ha : a.length ≤ 1048576) (hb : b.length ≤ 1048576) (hra : ∀ r ∈ a, r.length ≤ 1048576) (hrb : ∀ r ∈ b, r.length ≤ 1048576) :
    Calls Tryz.prog 96 #[v, u] w fun e w' => e = .returned (.bool (decide (Vd.cmpP a b < 0))) ∧ Up w w' := by
  obtain ⟨ao, cap, rfl, hm⟩ := hv
  obtain ⟨ao2, cap2, rfl, hm2⟩ := hu
  have HM := hide hm
  have HM2 := hide hm2
  have HA := hide hra
  have HB := hide hrb
  have HN := hide anti
  clear hm hm2 hra hrb anti
  go_enter Tryz.func96, Tryz.ntmps96
  go_wp2
  go_loopw [5] (fun i wr => ∃ k : Nat, i = .int .i64 k ∧ k ≤ a.length ∧ k ≤ b.length ∧ Hid (Up w wr) ∧ Hid (Vd.cmpP a b = Vd.cmpP (a.drop k) (b.drop k))) (fun i _ => a.length - (intOf i).toNat)
  case atStart => exact ⟨0, rfl, Nat.zero_le _, Nat.zero_le _, Up.refl _, rfl⟩
  case round =>
    obtain ⟨k, rfl, hk, hk2, HU, HE⟩ := hrel
    have i1 : (0 : Int) ≤ (k : Int) := by omega
    by_cases hlt : k < a.length ∧ k < b.length
    · obtain ⟨p, hp⟩ := Pl.some_of_lt hlt.1
      obtain ⟨q, hq⟩ := Pl.some_of_lt hlt.2
      obtain ⟨g, y, rfl, c0, hy⟩ := HM.out k _ hp
      obtain ⟨g2, z, rfl, d0, hz⟩ := HM2.out k _ hq
      rw [dropc hp, dropc hq] at HE
      have C0 := hide (HU.out.cell c0)
      have D0 := hide (HU.out.cell d0)
      have e0 := cell_gr C0.out
      have f0 := cell_gr D0.out
      have Hy := hide (hy.up HU.out)
      have Hz := hide (hz.up HU.out)
      have Hpl := hide (HA.out p (Pl.mem_of_some hp))
      have Hql := hide (HB.out q (Pl.mem_of_some hq))
      have HK1 : Hid (∀ g : Gr wr, Calls Tryz.prog 54 #[y, z] g.v fun e w' => e = .returned (.bool (decide (Vd.cmpR p q < 0))) ∧ Up g.v w') := fun g => less_any y z p q _ (Hy.out.up g.up) (Hz.out.up g.up) Hpl.out Hql.out
      have i2 : (k : Int) < (a.length : Int) := by omega
      have i3 : (k : Int) < (b.length : Int) := by omega
      try dsimp only at e0 f0
      clear hp hq c0 d0 hy hz
      go_upto_region 4 with fail
      refine wp_region_up (by kernel_rfl) (by kernel_rfl) ?_
      repeat (first | go_big_quiet_step ((go_at_call 54; exact Calls.up_of (HK1.out _))))
      refine wpQuiet_nil ?_
      rintro w3 ⟨⟨_, u3⟩, rfl⟩
      have HU3 := hide (HU.out.trans u3)
      have e1 := cell_gr (u3.cell C0.out)
      have f1 := cell_gr (u3.cell D0.out)
      have HK2 : Hid (∀ g : Gr w3, Calls Tryz.prog 54 #[z, y] g.v fun e w' => e = .returned (.bool (decide (Vd.cmpR q p < 0))) ∧ Up g.v w') := fun g => less_any z y q p _ ((Hz.out.up u3).up g.up) ((Hy.out.up u3).up g.up) Hql.out Hpl.out
      have HNk := hide (HN.out q p)
      try dsimp only at e1 f1
      clear u3 e0 f0 HK1
      rcases (show Vd.cmpR p q < 0 ∨ Vd.cmpR p q = 0 ∨ 0 < Vd.cmpR p q by omega) with c | c | c
      · have HR : Hid (decide (Vd.cmpP a b < 0) = true) := by rw [HE.out, cmpP_x _ _ (by omega)]; exact decide_eq_true c
        rw [decide_eq_true c]
        rw [decide_eq_false (show ¬ Vd.cmpR q p < 0 by rw [HNk.out]; omega)] at HK2
        clear c
        go_upto_region 5 with fail
        refine wp_region_up (by kernel_rfl) (by kernel_rfl) ?_
        repeat (first | go_big_quiet_step ((go_at_call 54; exact Calls.up_of (HK2.out _))))
        refine wpQuiet_nil ?_
        rintro w4 ⟨⟨_, u4⟩, rfl⟩
        have HU4 := hide (HU3.out.trans u4)
        clear u4 e1 f1 HK2
        go_wp2
        go_ret
        exact ⟨ret_b HR.out.symm, HU4.out⟩
      · rw [cmpP_same _ _ c] at HE
        rw [decide_eq_false (show ¬ Vd.cmpR p q < 0 by omega)]
        rw [decide_eq_false (show ¬ Vd.cmpR q p < 0 by rw [HNk.out]; omega)] at HK2
        clear c
        go_upto_region 5 with fail
        refine wp_region_up (by kernel_rfl) (by kernel_rfl) ?_
        repeat (first | go_big_quiet_step ((go_at_call 54; exact Calls.up_of (HK2.out _))))
        refine wpQuiet_nil ?_
        rintro w4 ⟨⟨_, u4⟩, rfl⟩
        have HU4 := hide (HU3.out.trans u4)
        clear u4 e1 f1 HK2
        go_wp2
        go_roundw
        case rel => exact ⟨k + 1, by go_num, by omega, by omega, HU4, HE⟩
        case measure => simp [intOf]; omega
      · have HR : Hid (decide (Vd.cmpP a b < 0) = false) := by rw [HE.out, cmpP_x _ _ (by omega)]; exact decide_eq_false (by omega)
        rw [decide_eq_false (show ¬ Vd.cmpR p q < 0 by omega)]
        rw [decide_eq_true (show Vd.cmpR q p < 0 by rw [HNk.out]; omega)] at HK2
        clear c
        go_upto_region 5 with fail
        refine wp_region_up (by kernel_rfl) (by kernel_rfl) ?_
        repeat (first | go_big_quiet_step ((go_at_call 54; exact Calls.up_of (HK2.out _))))
        refine wpQuiet_nil ?_
        rintro w4 ⟨⟨_, u4⟩, rfl⟩
        have HU4 := hide (HU3.out.trans u4)
        clear u4 e1 f1 HK2
        go_wp2
        go_ret
        exact ⟨ret_b HR.out.symm, HU4.out⟩
    · have HR : Hid (decide (Vd.cmpP a b < 0) = decide (a.length < b.length)) := by
        rw [HE.out, cmpP_ends (by
          rcases Nat.lt_or_ge k a.length with g | g
          · exact .inr (List.drop_eq_nil_of_le (by omega))
          · exact .inl (List.drop_eq_nil_of_le g)), List.length_drop, List.length_drop]
        exact decide_eq_decide.2 (by omega)
      by_cases g : k < a.length
      · have i2 : (k : Int) < (a.length : Int) := by omega
        have i3 : ¬ (k : Int) < (b.length : Int) := by omega
        go_wp2
        go_ret
        exact ⟨ret_b (by rw [HR.out]), HU.out⟩
      · have i2 : ¬ (k : Int) < (a.length : Int) := by omega
        go_wp2
        go_ret
        exact ⟨ret_b (by rw [HR.out]), HU.out⟩
end Go.Proofs.YtcclepohmhdpbaaGreatDoor

/- THE DOCUMENT's WALKS: round. -/
namespace Go.Proofs.YtcclepohmhdpbaaGreatDoor
set_option linter.all false
open Go.RowKit Go.Deep

theorem ptAt_of1 {r : Ring} {i : Nat} {p : Pnt} (h : r[i]? = some p) : Vd.ptAt r i = p := by unfold Vd.ptAt; rw [List.getD_eq_getElem?_getD, h]; rfl
/-- Some at once. -/
theorem wpList_appN {P : Program} {t e : TypeId} {z : Value} {size bytes : Nat} (E0 : Elem P t e z size bytes) {ops : Array Oper} {rest : List Oper} {o : Oper} {a : Act} {w : World} {Q : Exit → Act → World → Prop} (hgd : o.guard = none) (s x : Operand)
    (ho : o.op = .call { callee := .builtin .append, args := #[s, x], argTypes := #[t, t] }) (base : Nat) (v : Value) (n : Nat) (xs : List Value) (hs : a.eval s = v) (hown : w.ownsRow base e size v n xs)
    (ad : Addr) (m c : Nat) (news : List Value) (hx : a.eval x = .slice (some ad) m c) (hl : news.length = m * size) (hnews : ∀ j u, news[j]? = some u → w.cell? (ad.add j) = some u) (h1 : ∀ u ∈ news, u.oneCell' = true) (hm : 0 < m)
    (hn : n + m ≤ 1073741824) (hbase : base ≤ w.heap.size)
    (h : ∀ g cap w', w'.ownsRow base e size (.slice (some ⟨g, 0, none⟩) (n + m) cap) (n + m) (xs ++ news) → w.grownBy w' v.ownBlock → (v.ownBlock = some g ∨ g = w.heap.size) → g < w'.heap.size → wpList P ops Q rest (a.put o.dst (.slice (some ⟨g, 0, none⟩) (n + m) cap)) w') :
    wpList P ops Q (o :: rest) a w := by
  obtain ⟨i, hi, hzz⟩ := Option.map_eq_some_iff.1 E0.info
  simp only [Prod.mk.injEq] at hzz
  obtain ⟨z1, z2, z3⟩ := hzz
  refine wpList_append_lies w hgd s x t ho base e i z size bytes E0.und hi z1 z2 z3 E0.zs E0.pos v n xs hs hown ad m c news hx hl hnews h1 hm (by unfold maxLen; omega) ?_ hbase w.heap.size rfl h
  have := E0.small
  have h2 : (n + m) * bytes ≤ (n + m) * 4096 := Nat.mul_le_mul_left _ this
  omega
/-- Nothing is appended. -/
theorem wpList_app0 {P : Program} {t e : TypeId} {z : Value} {size bytes : Nat} (E0 : Elem P t e z size bytes) {ops : Array Oper} {rest : List Oper} {o : Oper} {a : Act} {w : World} {Q : Exit → Act → World → Prop} (hgd : o.guard = none) (s x : Operand)
    (ho : o.op = .call { callee := .builtin .append, args := #[s, x], argTypes := #[t, t] }) (ao : Option Addr) (n cap : Nat) (hle : n ≤ cap) (hs : a.eval s = .slice ao n cap) (ad : Addr) (c : Nat) (hx : a.eval x = .slice (some ad) 0 c)
    (h : wpList P ops Q rest (a.put o.dst (.slice ao n cap)) w) : wpList P ops Q (o :: rest) a w := by
  obtain ⟨i, hi, hzz⟩ := Option.map_eq_some_iff.1 E0.info
  refine wpList_plain hgd fun K hK => ?_
  have hrun := run_append_nothing (P := P) w t t o.type e i E0.und hi ao n cap hle _ (Src.ofSlice w E0.und ad 0 c [] (by simp) (by simp) (by simp))
  unfold Oper.wp
  simp [execOp, ho, resolve, invoke, builtin, hs, hx, hrun, Result.andThen]
  exact hK _ _ h
theorem own_cap {w : World} {base : Nat} {e : TypeId} {size g n cap : Nat} {xs : List Value} (h : w.ownsRow base e size (.slice (some ⟨g, 0, none⟩) n cap) n xs) : n ≤ cap := by
  rcases h.2 with ⟨h', _⟩ | ⟨g', cap', cur, h', hb, hg, hnc, _⟩
  · cases h'
  · cases h'; exact hnc
theorem PRcell {w : World} {base g cap : Nat} {l : Ring} (h : w.ownsRow base 32 2 (.slice (some ⟨g, 0, none⟩) l.length cap) l.length (flat l)) {i : Nat} {p : Pnt} (hi : l[i]? = some p) : w.cell? ⟨g, i * 2, none⟩ = some (.int .i64 p.1) ∧ w.cell? ⟨g, i * 2 + 1, none⟩ = some (.int .i64 p.2) := by
  obtain ⟨g', cap', e', hc⟩ := own_cell h (by have := Pl.lt_of_some hi; omega)
  cases e'
  exact ⟨hc _ _ (flat_at l i p hi).1, hc _ _ (flat_at l i p hi).2⟩
theorem addr_add2 (b off k : Nat) : (⟨b, off, none⟩ : Addr).add k = ⟨b, off + k, none⟩ := by unfold Addr.add; split <;> simp_all
theorem flat_drop (l : Ring) : ∀ f, flat (l.drop f) = (flat l).drop (f * 2) := by
  induction l with
  | nil => intro f; simp [flat]
  | cons p t ih =>
    intro f
    cases f with
    | zero => rfl
    | succ f => rw [List.drop_succ_cons, ih f, flat_cons, show (f + 1) * 2 = f * 2 + 1 + 1 by omega]; rfl
theorem flat_takeN (l : Ring) : ∀ f, flat (l.take f) = (flat l).take (f * 2) := by
  induction l with
  | nil => intro f; simp [flat]
  | cons p t ih =>
    intro f
    cases f with
    | zero => rfl
    | succ f => rw [List.take_succ_cons, flat_cons, ih f, flat_cons, show (f + 1) * 2 = f * 2 + 1 + 1 by omega]; rfl
set_option maxRecDepth 8000 in
set_option maxHeartbeats 8000000 in
theorem round_any {base : Nat} (v : Value) (l : Ring) (w : World) (hv : w.ownsRow base 32 2 v l.length (flat l)) (hl : l.length ≤ 1048576) (h1 : 1 ≤ l.length) :
    Calls Tryz.prog 95 #[v] w fun e w' => ∃ u, e = .returned u ∧ Up w w' ∧ w'.ownsRow w.heap.size 32 2 u (Vd.roundD l).length (flat (Vd.roundD l)) := by
  have hrd := own_rd1 hv
  have HV0 := hide hv
  obtain ⟨g, cap, cur, rfl, hb, hh, hcap, hmx, hcs, hcu⟩ : ∃ g cap cur, v = .slice (some ⟨g, 0, none⟩) l.length cap ∧ base ≤ g ∧ w.heap[g]? = some (.cells cur 32 (0, 0)) ∧ l.length ≤ cap ∧ cap ≤ maxLen ∧ cur.size = cap * 2 ∧ cur.toList.take (l.length * 2) = flat l := by
    rcases hv.2 with ⟨rfl, h0⟩ | h
    · omega
    · exact h
  obtain ⟨ao, cap', e', hm⟩ := hrd
  cases e'
  have HM := hide hm
  have HS := hide (fun n => Vd.leastN_s l n)
  have HLe := hide (fun n => Vd.leastN_b l n)
  have HD : Hid (Vd.leastI l = Vd.leastN l l.length) := rfl
  have HRo : Hid (Vd.roundD l = l.drop (Vd.leastI l) ++ l.take (Vd.leastI l) ++ [Vd.ptAt l (Vd.leastI l)]) := rfl
  have HH := hide hh
  have HCu := hide hcu
  have HCs := hide hcs
  clear hm hv hh hcu hcs hmx hb
  go_enter Tryz.func95, Tryz.ntmps95
  go_wp2
  go_loopw [3, 4] (fun fv i wr => ∃ (k f : Nat), i = .int .i64 k ∧ fv = .int .i64 f ∧ k ≤ l.length ∧ f ≤ k ∧ Hid (Up w wr) ∧ Hid (f = Vd.leastN l k)) (fun _ i _ => l.length - (intOf i).toNat)
  case atStart => exact ⟨0, 0, rfl, rfl, Nat.zero_le _, Nat.le_refl _, Up.refl _, rfl⟩
  case round =>
    obtain ⟨k, f, rfl, rfl, hk, hfk, HU, HF⟩ := hrel
    by_cases hlt : k < l.length
    · obtain ⟨⟨px, py⟩, hp⟩ := Pl.some_of_lt hlt
      have hfl : f < l.length := by have := HLe.out k; rw [← HF.out] at this; omega
      obtain ⟨⟨qx, qy⟩, hq⟩ := Pl.some_of_lt hfl
      obtain ⟨b, e', c0, c1⟩ := HM.out k _ hp
      cases e'
      obtain ⟨b', e', d0, d1⟩ := HM.out f _ hq
      cases e'
      have e0 := cell_gr (HU.out.cell c0)
      have e1 := cell_gr (HU.out.cell c1)
      have g0 := cell_gr (HU.out.cell d0)
      have g1 := cell_gr (HU.out.cell d1)
      have HSk : Hid (Vd.leastN l (k + 1) = if Vd.bef (px, py) (qx, qy) then k else f) := by
        rw [HS.out, ← HF.out]; unfold Vd.leastS; rw [ptAt_of1 hp, ptAt_of1 hq]; exact rfl
      have i1 : (0 : Int) ≤ (k : Int) := by omega
      have i2 : (k : Int) < (l.length : Int) := by omega
      have i3 : (0 : Int) ≤ (f : Int) := by omega
      have i4 : (f : Int) < (l.length : Int) := by omega
      try dsimp only at e0 e1 g0 g1
      clear hp hq c0 c1 d0 d1
      have hcs : (px < qx ∧ Vd.bef (px, py) (qx, qy)) ∨ (¬ px < qx ∧ px ≠ qx ∧ ¬ Vd.bef (px, py) (qx, qy)) ∨ (¬ px < qx ∧ px = qx ∧ py < qy ∧ Vd.bef (px, py) (qx, qy)) ∨ (¬ px < qx ∧ px = qx ∧ ¬ py < qy ∧ ¬ Vd.bef (px, py) (qx, qy)) := by
        unfold Vd.bef; simp only; omega
      rcases hcs with ⟨a1, a2⟩ | ⟨a1, a3, a2⟩ | ⟨a1, a3, a4, a2⟩ | ⟨a1, a3, a4, a2⟩
      · rw [if_pos a2] at HSk
        clear a2
        go_upto_region 5 with fail
        refine wp_region_up (by kernel_rfl) (by kernel_rfl) ?_
        repeat (first | go_big_quiet_step (fail))
        refine wpQuiet_nil ?_
        rintro w3 ⟨⟨_, u3⟩, rfl⟩
        have HU3 := hide (HU.out.trans u3)
        clear u3 e0 e1 g0 g1
        go_wp2
        go_roundw
        case rel => exact ⟨k + 1, k, by go_num, rfl, by omega, by omega, HU3, HSk.out.symm⟩
        case measure => simp [intOf]; omega
      · rw [if_neg a2] at HSk
        have a5 := beq_eq_false_iff_ne.2 a3
        clear a2
        go_upto_region 5 with fail
        refine wp_region_up (by kernel_rfl) (by kernel_rfl) ?_
        repeat (first | go_big_quiet_step (fail))
        refine wpQuiet_nil ?_
        rintro w3 ⟨⟨_, u3⟩, rfl⟩
        have HU3 := hide (HU.out.trans u3)
        clear u3 e0 e1 g0 g1
        go_wp2
        go_roundw
        case rel => exact ⟨k + 1, f, by go_num, rfl, by omega, by omega, HU3, HSk.out.symm⟩
        case measure => simp [intOf]; omega
      · rw [if_pos a2] at HSk
        subst a3
        clear a2
        go_upto_region 5 with fail
        refine wp_region_up (by kernel_rfl) (by kernel_rfl) ?_
        repeat (first | go_big_quiet_step (fail))
        refine wpQuiet_nil ?_
        rintro w3 ⟨⟨_, u3⟩, rfl⟩
        have HU3 := hide (HU.out.trans u3)
        clear u3 e0 e1 g0 g1
        go_wp2
        go_roundw
        case rel => exact ⟨k + 1, k, by go_num, rfl, by omega, by omega, HU3, HSk.out.symm⟩
        case measure => simp [intOf]; omega
      · rw [if_neg a2] at HSk
        subst a3
        clear a2
        go_upto_region 5 with fail
        refine wp_region_up (by kernel_rfl) (by kernel_rfl) ?_
        repeat (first | go_big_quiet_step (fail))
        refine wpQuiet_nil ?_
        rintro w3 ⟨⟨_, u3⟩, rfl⟩
        have HU3 := hide (HU.out.trans u3)
        clear u3 e0 e1 g0 g1
        go_wp2
        go_roundw
        case rel => exact ⟨k + 1, f, by go_num, rfl, by omega, by omega, HU3, HSk.out.symm⟩
        case measure => simp [intOf]; omega
    · have hk2 : k = l.length := by omega
      have HFl : Hid (Vd.leastI l = f) := by rw [HD.out, HF.out, hk2]; exact rfl
      have hfl : f < l.length := by have := HLe.out k; rw [← HF.out] at this; omega
      rw [HFl.out] at HRo
      have i9 : ¬ (k : Int) < (l.length : Int) := by omega
      clear hk2
      have i3 : (0 : Int) ≤ (f : Int) := by omega
      have i4 : (f : Int) < (l.length : Int) := by omega
      have i5 : (f : Int) ≤ (l.length : Int) := by omega
      have i6 : (f : Int) ≤ (cap : Int) := by omega
      obtain ⟨⟨qx, qy⟩, hq⟩ := Pl.some_of_lt hfl
      have HPt : Hid (Vd.ptAt l f = (qx, qy)) := ptAt_of1 hq
      have QC := hide (PRcell HV0.out hq)
      have HV1 := hide (own_up HV0.out HU.out)
      have HN1 : Hid (∀ j u, (flat (l.drop f))[j]? = some u → wr.cell? ((⟨g, f * 2, none⟩ : Addr).add j) = some u) := fun j u hu => by
        rw [flat_drop, List.getElem?_drop] at hu
        rw [addr_add2]
        obtain ⟨g', cap', e', hc⟩ := own_cell HV1.out (by omega)
        cases e'
        exact hc _ _ hu
      have hb : Hid (w.heap.size ≤ wr.heap.size) := HU.out.size
      have hL1 : (flat (l.drop f)).length = (l.length - f) * 2 := by rw [flat_length, List.length_drop]
      have HL1 := hide hL1
      have k1 : IntKind.i64.wrap ((l.length : Int) - (f : Int)) = (l.length : Int) - (f : Int) := wrap_id (by omega) (by omega)
      have k2 : ((l.length : Int) - (f : Int)).toNat = l.length - f := by omega
      have HOne := hide (fun (x : Ring) => flat_one x)
      have HOwn0 : Hid (wr.ownsRow w.heap.size 32 2 (.slice none 0 0) 0 []) := World.ownsRow_nil _ _ _ _
      have hmp : Hid (0 < l.length - f ∧ 0 + (l.length - f) ≤ 1073741824) := by show _ ∧ _; omega
      clear hq hL1
      go_upto_region 9 with (at_builtin; refine wpList_appN el_pts rfl (.tmp 50) (.tmp 53) rfl w.heap.size _ _ _ (by rfl) HOwn0.out ⟨g, f * 2, none⟩ (l.length - f) _ (flat (l.drop f)) (by rfl) HL1.out HN1.out (HOne.out _) hmp.out.1 hmp.out.2 hb.out ?_; intro g5 cap5 w5 hown5 hg5 hat5 hlt5; have HO5 := hide hown5; have HG5 := hide hg5; have HU5 : Hid (Up wr w5) := Fr.up (S := fun _ => False) ((Fr.of_up (Up.refl wr)).grown hg5 fun x hx => by simp [Value.ownBlock] at hx) (fun _ _ h => h); clear hown5 hg5 hat5 hlt5)
      have HU6 := hide (HU.out.trans HU5.out)
      have HV2 := hide (own_up HV1.out HU5.out)
      simp only [Nat.zero_add, List.nil_append] at HO5 ⊢
      clear k1 k2 HN1 HL1 hmp HOwn0
      obtain ⟨wo, hwo⟩ : ∃ wo : World, wo = w5 := ⟨_, rfl⟩
      subst hwo
      have q0 := HU6.out.cell QC.out.1
      have q1 := HU6.out.cell QC.out.2
      have hb6 : Hid (w.heap.size ≤ wo.heap.size) := HU6.out.size
      have hgo : Hid (g5 < wo.heap.size) := (own_lt HO5.out (g := g5) rfl).2
      have hgb : Hid (w.heap.size ≤ g5) := (own_lt HO5.out (g := g5) rfl).1
      have hgg : Hid (g ≠ g5) := by have h1 := (own_lt HV0.out (g := g) rfl).2; have h2 := hgb.out; show _ ≠ _; omega
      try dsimp only at q0 q1
      have hl5 := hide (own_cap HO5.out)
      have HU7 : Hid (∀ w6 : World, wo.grownBy w6 (some g5) → Up w w6) := fun w6 hg6 => Fr.up (S := fun _ => False) ((Fr.of_up HU6.out).grown hg6 fun x hx => .inr (by cases hx; exact hgb.out)) (fun _ _ h => h)
      go_cut [5] (fun sv wc => ∃ g6 cap6, sv = .slice (some ⟨g6, 0, none⟩) l.length cap6 ∧ Hid (Up w wc) ∧ Hid (wc.ownsRow w.heap.size 32 2 (.slice (some ⟨g6, 0, none⟩) l.length cap6) l.length (flat (l.drop f ++ l.take f))))
      case first =>
        by_cases hf0 : f = 0
        · have HX : Hid ((l.length - f = l.length) ∧ flat (l.drop f ++ l.take f) = flat (l.drop f)) := by subst hf0; show _ ∧ _; simp
          rw [← HX.out.2, HX.out.1] at HO5
          rw [HX.out.1] at hl5
          subst hf0
          simp only [Nat.sub_zero]
          go_upto_region 10 with (at_builtin; refine wpList_app0 el_pts rfl (.tmp 55) (.tmp 58) rfl (some ⟨g5, 0, none⟩) l.length cap5 hl5.out (by rfl) ⟨g, 0, none⟩ _ (by rfl) ?_)
          go_meet
          case rel => exact ⟨g5, cap5, rfl, HU6, HO5⟩
        · have hL2 : Hid ((flat (l.take f)).length = f * 2) := by rw [flat_length, List.length_take, Nat.min_eq_left (by omega)]; exact rfl
          have HN2 : Hid (∀ j u, (flat (l.take f))[j]? = some u → wo.cell? ((⟨g, 0, none⟩ : Addr).add j) = some u) := fun j u hu => by
            rw [flat_takeN, List.getElem?_take] at hu
            split at hu
            · rw [addr_add2, Nat.zero_add]
              obtain ⟨g', cap', e', hc⟩ := own_cell HV2.out (by omega)
              cases e'
              exact hc _ _ hu
            · cases hu
          have hmp : Hid (0 < f ∧ (l.length - f) + f ≤ 1073741824 ∧ (l.length - f) + f = l.length) := by show _ ∧ _ ∧ _; omega
          go_upto_region 10 with (at_builtin; refine wpList_appN el_pts rfl (.tmp 55) (.tmp 58) rfl w.heap.size _ _ _ (by rfl) HO5.out ⟨g, 0, none⟩ f _ (flat (l.take f)) (by rfl) hL2.out HN2.out (HOne.out _) hmp.out.1 hmp.out.2.1 hb6.out ?_; intro g6 cap6 w6 hown6 hg6 hat6 hlt6; have HO6 := hide hown6; have HU8 := hide (HU7.out _ hg6); clear hown6 hg6 hat6 hlt6)
          go_meet
          case rel => exact ⟨g6, cap6, by rw [hmp.out.2.2], HU8, by rw [flat_append]; rw [hmp.out.2.2] at HO6; exact HO6⟩
      case rest =>
        obtain ⟨g6, cap6, rfl, HUc, HOc⟩ := hcut
        clear q0 q1
        have q0 := HUc.out.cell QC.out.1
        have q1 := HUc.out.cell QC.out.2
        try dsimp only at q0 q1
        have HOA : Hid (∀ o, (wc.alloc o).ownsRow w.heap.size 32 2 (.slice (some ⟨g6, 0, none⟩) l.length cap6) l.length (flat (l.drop f ++ l.take f))) := fun o => HOc.out.alloc o
        have hb7 : Hid (l.length ≤ 1073741824) := by show _ ≤ _; omega
        have hsz : Hid (w.heap.size ≤ wc.heap.size) := HUc.out.size
        have hlr : Hid ((Vd.roundD l).length = l.length + 1) := by rw [HRo.out]; simp only [List.length_append, List.length_drop, List.length_take, List.length_cons, List.length_nil]; show _ = _; omega
        go_wp2_with (at_builtin; refine wpList_app el_pts rfl (.tmp 60) (.tmp 65) rfl w.heap.size _ _ _ (by rfl) (HOA.out _) wc.heap.size [.int .i64 qx, .int .i64 qy] (by rfl) rfl (heap_alloc_new wc _) (by intro x hx; simp at hx; rcases hx with rfl | rfl <;> rfl) hb7.out (by simp; have := hsz.out; omega) ?_; intro g7 cap7 w7 hown7 hg7 hat7 hlt7; have HO7 := hide hown7; have HU8 : Hid (Up w w7) := Fr.up (S := fun _ => False) (((Fr.of_up HUc.out).alloc _).grown hg7 fun x hx => .inr (own_lt HOc.out hx).1) (fun _ _ h => h); clear hown7 hg7 hat7 hlt7 q0 q1)
        go_ret
        exact ⟨_, rfl, HU8.out, by rw [hlr.out, HRo.out, flat_append, HPt.out]; exact HO7.out⟩
end Go.Proofs.YtcclepohmhdpbaaGreatDoor

/- THE WALKS: package canon: corners. -/
namespace Go.Proofs.YtcclepohmhdpbaaGreatDoor
set_option linter.all false
open Go.RowKit Go.Deep

namespace Vd
theorem cornersI_succ (r : Ring) (n : Nat) : cornersI r (n + 1) = cornersI r n ++ (if turns r n = true then [ptAt r n] else []) := by
  unfold cornersI
  rw [List.range_succ, List.filter_append, List.map_append]
  congr 1
  by_cases h : turns r n = true
  · rw [if_pos h]; simp [h]
  · rw [if_neg h]; simp [h]
theorem cornersI_one (r : Ring) : cornersI r 1 = [] := by
  rw [cornersI_succ]; simp [cornersI, turns]
theorem cornersI_len (r : Ring) (n : Nat) : (cornersI r n).length ≤ n := by
  unfold cornersI
  rw [List.length_map]
  have := List.length_filter_le (turns r) (List.range n)
  simpa using this
end Vd
theorem ptAt_some {r : Ring} {i : Nat} {p : Pnt} (h : r[i]? = some p) : Vd.ptAt r i = p := by unfold Vd.ptAt; rw [List.getD_eq_getElem?_getD, h]; rfl
theorem turns_at {r : Ring} {k : Nat} {p q n : Pnt} (hp : r[k]? = some p) (hq : r[k + 1]? = some q) (hn : Vd.nextI r (k + 1) = n) : Vd.turns r (k + 1) = decide (Vd.side (p, q) (Vd.at1 n) ≠ 0) := by
  unfold Vd.turns
  rw [show k + 1 - 1 = k from rfl, ptAt_some hp, ptAt_some hq, hn]
  simp

set_option maxRecDepth 8000 in
set_option maxHeartbeats 8000000 in
theorem corners_any (v : Value) (r : Ring) (w : World) (hv : Rd1 w v r) (hr : r.length ≤ 1048576) (hc : Vd.CdR r) :
    Calls Tryz.prog 205 #[v] w fun e w' => ∃ u, e = .returned u ∧ Up w w' ∧ w'.ownsRow w.heap.size 32 2 u (Vd.corners r).length (flat (Vd.corners r)) := by
  obtain ⟨ao, cap, rfl, hm⟩ := hv
  have HM := hide hm
  have HC := hide hc
  have HD : Hid (Vd.corners r = Vd.cornersI r r.length) := rfl
  have HS := hide (fun n => Vd.cornersI_succ r n)
  have H1 := hide (Vd.cornersI_one r)
  have HLn := hide (fun n => Vd.cornersI_len r n)
  clear hm hc
  go_enter Tryz.func205, Tryz.ntmps205
  go_wp2
  go_loopw [3, 4] (fun sv i wr => ∃ (k : Nat) (u : Value), i = .int .i64 ((k : Int) + 1) ∧ u = sv ∧ k ≤ r.length ∧ Hid (Up w wr) ∧ Hid (wr.ownsRow w.heap.size 32 2 u (Vd.cornersI r (k + 1)).length (flat (Vd.cornersI r (k + 1)))) ∧ Hid (k = 0 ∨ k + 1 ≤ r.length)) (fun _ i _ => r.length - (intOf i).toNat)
  case atStart => exact ⟨0, _, rfl, rfl, Nat.zero_le _, Up.refl _, by show World.ownsRow _ _ _ _ _ _ _; rw [H1.out]; exact World.ownsRow_nil _ _ _ _, .inl rfl⟩
  case round =>
    obtain ⟨k, u, rfl, rfl, hk, HU, HO, HK0⟩ := hrel
    by_cases hlt : k + 1 < r.length
    · obtain ⟨⟨px, py⟩, hp⟩ := Pl.some_of_lt (show k < r.length by omega)
      obtain ⟨⟨qx, qy⟩, hq⟩ := Pl.some_of_lt hlt
      obtain ⟨⟨ox, oy⟩, ho⟩ := Pl.some_of_lt (show 1 < r.length by omega)
      obtain ⟨b, rfl, c0, c1⟩ := HM.out k _ hp
      obtain ⟨b', e', d0, d1⟩ := HM.out (k + 1) _ hq
      cases e'
      obtain ⟨b', e', o0, o1⟩ := HM.out 1 _ ho
      cases e'
      have Cp := hide (HC.out _ (Pl.mem_of_some hp))
      have Cq := hide (HC.out _ (Pl.mem_of_some hq))
      have i1 : (0 : Int) ≤ (k : Int) := by omega
      have i2 : (k : Int) < (r.length : Int) := by omega
      have i3 : (k : Int) + 1 < (r.length : Int) := by omega
      have i4 : IntKind.i64.wrap (k : Int) = (k : Int) := wrap_id (by omega) (by omega)
      have i5 : (0 : Int) ≤ (k : Int) + 1 := by omega
      have i6 : (1 : Int) < (r.length : Int) := by omega
      have i7 : IntKind.i64.wrap ((k : Int) + 1 + 1) = (k : Int) + 1 + 1 := wrap_id (by omega) (by omega)
      have i8 : IntKind.i64.wrap ((k : Int) + 1) = (k : Int) + 1 := wrap_id (by omega) (by omega)
      have C0 := hide (HU.out.cell c0)
      have C1 := hide (HU.out.cell c1)
      have D0 := hide (HU.out.cell d0)
      have D1 := hide (HU.out.cell d1)
      have e0 := HU.out.cell o0
      have e1 := HU.out.cell o1
      have hTs : Hid (w.heap.size ≤ wr.heap.size) := HU.out.size
      clear c0 c1 d0 d1 o0 o1
      obtain ⟨⟨nx, ny⟩, hn⟩ : ∃ n, Vd.nextI r (k + 1) = n := ⟨_, rfl⟩
      have HT := hide (turns_at hp hq hn)
      have HSk := hide (HS.out (k + 1))
      rw [HT.out, ptAt_some hq] at HSk
      have Cn : Hid (Vd.Cd (nx, ny)) := by
        rw [← hn]; unfold Vd.nextI
        split
        · rename_i h; obtain ⟨x, hx⟩ := Pl.some_of_lt h; rw [ptAt_some hx]; exact HC.out _ (Pl.mem_of_some hx)
        · rw [ptAt_some ho]; exact HC.out _ (Pl.mem_of_some ho)
      obtain ⟨T, hT⟩ : ∃ T, wr.heap.size = T := ⟨_, rfl⟩
      have RN0 := hide (new_row (w := wr) (o := .cells #[.int .i64 ox, .int .i64 oy] 32) (vs := [.int .i64 ox, .int .i64 oy]) rfl)
      have HUT : Hid (Up wr (wr.alloc (.cells #[.int .i64 ox, .int .i64 oy] 32))) := (Up.refl _).alloc _
      rw [hT] at RN0
      have hcase : (∃ x y, r[k + 2]? = some (x, y) ∧ (nx, ny) = (x, y) ∧ (k : Int) + 1 + 1 < (r.length : Int)) ∨ ((nx, ny) = (ox, oy) ∧ ¬ (k : Int) + 1 + 1 < (r.length : Int)) := by
        rw [← hn]; unfold Vd.nextI
        by_cases h : k + 1 + 1 < r.length
        · obtain ⟨⟨x, y⟩, hx⟩ := Pl.some_of_lt h
          exact .inl ⟨x, y, hx, by rw [if_pos h, ptAt_some hx], by omega⟩
        · exact .inr ⟨by rw [if_neg h, ptAt_some ho], by omega⟩
      have HX : Hid (∀ n, r[k + 2]? = some n → wr.cell? ⟨b, (k + 1 + 1) * 2, none⟩ = some (.int .i64 n.1) ∧ wr.cell? ⟨b, (k + 1 + 1) * 2 + 1, none⟩ = some (.int .i64 n.2)) := fun n hx => by
        obtain ⟨b', e', x0, x1⟩ := HM.out (k + 2) _ hx
        cases e'
        exact ⟨HU.out.cell x0, HU.out.cell x1⟩
      clear hp hq hn ho
      rcases hcase with ⟨x, y, hx, en, i9⟩ | ⟨en, i9⟩
      · obtain ⟨rfl, rfl⟩ := Prod.mk.inj en
        obtain ⟨x0, x1⟩ := HX.out _ hx
        have y0 := HUT.out.cell x0
        have y1 := HUT.out.cell x1
        have tf := fun i => RN0.out.frozen i
        have t0 := RN0.out.cell (i := 0) rfl
        have t1 := RN0.out.cell (i := 1) rfl
        rw [← hT] at tf t0 t1
        try dsimp only at y0 y1
        clear hx x0 x1 en HX
        go_upto_region 8 with fail
        clear y0 y1 tf t0 t1 e0 e1 RN0 HUT i9
        have HUW : Hid (Up wr (wr.alloc (.cells #[.int .i64 nx, .int .i64 ny] 32))) := (Up.refl _).alloc _
        have RN := hide (new_row (w := wr) (o := .cells #[.int .i64 nx, .int .i64 ny] 32) (vs := [.int .i64 nx, .int .i64 ny]) rfl)
        have hTl : Hid (u.ownBlock ≠ some wr.heap.size) := fun e => by have := (own_lt HO.out e).2; omega
        rw [hT] at RN hTl
        generalize wr.alloc (.cells #[.int .i64 nx, .int .i64 ny] 32) = W at *
        have f0 := HUW.out.cell C0.out
        have f1 := HUW.out.cell C1.out
        have g0 := HUW.out.cell D0.out
        have g1 := HUW.out.cell D1.out
        have f0a := fun o => ((Up.refl W).alloc o).cell f0
        have f1a := fun o => ((Up.refl W).alloc o).cell f1
        have g0a := fun o => ((Up.refl W).alloc o).cell g0
        have g1a := fun o => ((Up.refl W).alloc o).cell g1
        try dsimp only at f0 f1 g0 g1 f0a f1a g0a g1a
        go_cut [6] (fun sl wc => ∃ S : Nat, sl = .pointer (some ⟨S, 0, none⟩) ∧ Hid (Up W wc) ∧ Hid (VRow wc S 191 [.int .i64 px, .int .i64 py, .int .i64 qx, .int .i64 qy]))
        case first =>
          go_region
          all_goals
            go_wp2
            go_meet
            case rel => exact ⟨W.heap.size, rfl, (by first | exact ((Up.refl W).alloc _).drew | exact (Up.refl W).alloc _ | exact ((Up.refl W).drew.alloc _)), (by first | exact VRow.drewN (VRow.new W _ _) 1 | exact VRow.new W _ _)⟩
        case rest =>
          obtain ⟨S, rfl, HUc, RS⟩ := hcut
          clear f0 f1 g0 g1 f0a f1a g0a g1a
          have RN2 := hide (RN.out.up HUc.out)
          have q0 := RN2.out.gr (i := 0) rfl
          have q1 := RN2.out.gr (i := 1) rfl
          have s0 := RS.out.gr (i := 0) rfl
          have s1 := RS.out.gr (i := 1) rfl
          have s2 := RS.out.gr (i := 2) rfl
          have s3 := RS.out.gr (i := 3) rfl
          have HA : Hid (∀ g : Gr wc, Calls Tryz.prog 199 #[.agg #[.int .i64 nx, .int .i64 ny]] g.v fun e w' => e = .returned (.agg #[.int .i64 nx, .int .i64 ny, .int .i64 1]) ∧ Up g.v w') := fun g => at_any (nx, ny) g.v
          have HB : Hid (∀ g : Gr wc, Calls Tryz.prog 233 #[.agg #[.int .i64 px, .int .i64 py, .int .i64 qx, .int .i64 qy], .agg #[.int .i64 nx, .int .i64 ny, .int .i64 1]] g.v fun e w' => e = .returned (.int .i64 (Vd.side ((px, py), (qx, qy)) (Vd.at1 (nx, ny)))) ∧ Up g.v w') := fun g => side_any ((px, py), (qx, qy)) (Vd.at1 (nx, ny)) ⟨Cp.out, Cq.out⟩ (Vd.at1_sp Cn.out) g.v
          generalize Vd.side ((px, py), (qx, qy)) (Vd.at1 (nx, ny)) = X at *
          go_wp2_with fail
          refine wp_region_up (by kernel_rfl) (by kernel_rfl) ?_
          repeat (first | go_big_quiet_step (first | (go_at_call 199; exact Calls.up_of (HA.out _)) | (go_at_call 233; exact Calls.up_of (HB.out _))))
          refine wpQuiet_nil ?_
          rintro w3 ⟨⟨_, u3⟩, rfl⟩
          have HU3 := hide ((HUW.out.trans HUc.out).trans u3)
          clear u3 q0 q1 s0 s1 s2 s3 HA HB RN2 RS HUc
          by_cases hX : X = 0
          · have HO2 : Hid (World.ownsRow w3 w.heap.size 32 2 u (Vd.cornersI r (k + 1 + 1)).length (flat (Vd.cornersI r (k + 1 + 1)))) := by
              rw [HSk.out, hX]; simp only [ne_eq, not_true_eq_false, decide_false, Bool.false_eq_true, if_false, List.append_nil]; exact own_up HO.out HU3.out
            have hX' := bne_eq_false_iff_eq.2 hX
            subst hX
            go_wp2
            go_roundw
            case rel => exact ⟨k + 1, _, by go_num, rfl, by omega, HU.out.trans HU3.out, HO2, .inr (by omega)⟩
            case measure => simp [intOf]; omega
          · have hX1 := bne_iff_ne.2 hX
            have hX2 := beq_eq_false_iff_ne.2 hX
            have g0 := HU3.out.cell D0.out
            have g1 := HU3.out.cell D1.out
            try dsimp only at g0 g1
            have HOA : Hid (∀ o, (w3.alloc o).ownsRow w.heap.size 32 2 u (Vd.cornersI r (k + 1)).length (flat (Vd.cornersI r (k + 1)))) := fun o => (own_up HO.out HU3.out).alloc o
            have hb : Hid ((Vd.cornersI r (k + 1)).length ≤ 1073741824) := by have := HLn.out (k + 1); show _ ≤ _; omega
            have hsz : Hid (w.heap.size ≤ w3.heap.size) := Nat.le_trans hTs.out HU3.out.size
            go_wp2_with (at_builtin; refine wpList_app el_pts rfl (.tmp 41) (.tmp 46) rfl w.heap.size _ _ _ (by rfl) (HOA.out _) w3.heap.size [.int .i64 qx, .int .i64 qy] (by rfl) rfl (heap_alloc_new w3 _) (by intro x hx; simp at hx; rcases hx with rfl | rfl <;> rfl) hb.out (by simp; have := hsz.out; omega) ?_; intro g cap w5 hown5 hg5 hat5 hlt5; have HO5 := hide hown5; have HU5 : Hid (Up w w5) := Fr.up (S := fun _ => False) (((Fr.of_up (HU.out.trans HU3.out)).alloc _).grown hg5 fun x hx => .inr (own_lt HO.out hx).1) (fun _ _ h => h); clear hown5 hg5 hat5 hlt5 g0 g1)
            go_roundw
            case rel => exact ⟨k + 1, _, by go_num, rfl, by omega, HU5, by rw [HSk.out]; simp only [hX, ne_eq, not_false_eq_true, decide_true, if_true]; rw [flat_append, List.length_append]; exact HO5, .inr (by omega)⟩
            case measure => simp [intOf]; omega
      · obtain ⟨rfl, rfl⟩ := Prod.mk.inj en
        clear en HX
        go_upto_region 8 with fail
        clear e0 e1 RN0 HUT i9
        have HUW : Hid (Up wr (wr.alloc (.cells #[.int .i64 nx, .int .i64 ny] 32))) := (Up.refl _).alloc _
        have RN := hide (new_row (w := wr) (o := .cells #[.int .i64 nx, .int .i64 ny] 32) (vs := [.int .i64 nx, .int .i64 ny]) rfl)
        have hTl : Hid (u.ownBlock ≠ some wr.heap.size) := fun e => by have := (own_lt HO.out e).2; omega
        rw [hT] at RN hTl
        generalize wr.alloc (.cells #[.int .i64 nx, .int .i64 ny] 32) = W at *
        have f0 := HUW.out.cell C0.out
        have f1 := HUW.out.cell C1.out
        have g0 := HUW.out.cell D0.out
        have g1 := HUW.out.cell D1.out
        have f0a := fun o => ((Up.refl W).alloc o).cell f0
        have f1a := fun o => ((Up.refl W).alloc o).cell f1
        have g0a := fun o => ((Up.refl W).alloc o).cell g0
        have g1a := fun o => ((Up.refl W).alloc o).cell g1
        try dsimp only at f0 f1 g0 g1 f0a f1a g0a g1a
        go_cut [6] (fun sl wc => ∃ S : Nat, sl = .pointer (some ⟨S, 0, none⟩) ∧ Hid (Up W wc) ∧ Hid (VRow wc S 191 [.int .i64 px, .int .i64 py, .int .i64 qx, .int .i64 qy]))
        case first =>
          go_region
          all_goals
            go_wp2
            go_meet
            case rel => exact ⟨W.heap.size, rfl, (by first | exact ((Up.refl W).alloc _).drew | exact (Up.refl W).alloc _ | exact ((Up.refl W).drew.alloc _)), (by first | exact VRow.drewN (VRow.new W _ _) 1 | exact VRow.new W _ _)⟩
        case rest =>
          obtain ⟨S, rfl, HUc, RS⟩ := hcut
          clear f0 f1 g0 g1 f0a f1a g0a g1a
          have RN2 := hide (RN.out.up HUc.out)
          have q0 := RN2.out.gr (i := 0) rfl
          have q1 := RN2.out.gr (i := 1) rfl
          have s0 := RS.out.gr (i := 0) rfl
          have s1 := RS.out.gr (i := 1) rfl
          have s2 := RS.out.gr (i := 2) rfl
          have s3 := RS.out.gr (i := 3) rfl
          have HA : Hid (∀ g : Gr wc, Calls Tryz.prog 199 #[.agg #[.int .i64 nx, .int .i64 ny]] g.v fun e w' => e = .returned (.agg #[.int .i64 nx, .int .i64 ny, .int .i64 1]) ∧ Up g.v w') := fun g => at_any (nx, ny) g.v
          have HB : Hid (∀ g : Gr wc, Calls Tryz.prog 233 #[.agg #[.int .i64 px, .int .i64 py, .int .i64 qx, .int .i64 qy], .agg #[.int .i64 nx, .int .i64 ny, .int .i64 1]] g.v fun e w' => e = .returned (.int .i64 (Vd.side ((px, py), (qx, qy)) (Vd.at1 (nx, ny)))) ∧ Up g.v w') := fun g => side_any ((px, py), (qx, qy)) (Vd.at1 (nx, ny)) ⟨Cp.out, Cq.out⟩ (Vd.at1_sp Cn.out) g.v
          generalize Vd.side ((px, py), (qx, qy)) (Vd.at1 (nx, ny)) = X at *
          go_wp2_with fail
          refine wp_region_up (by kernel_rfl) (by kernel_rfl) ?_
          repeat (first | go_big_quiet_step (first | (go_at_call 199; exact Calls.up_of (HA.out _)) | (go_at_call 233; exact Calls.up_of (HB.out _))))
          refine wpQuiet_nil ?_
          rintro w3 ⟨⟨_, u3⟩, rfl⟩
          have HU3 := hide ((HUW.out.trans HUc.out).trans u3)
          clear u3 q0 q1 s0 s1 s2 s3 HA HB RN2 RS HUc
          by_cases hX : X = 0
          · have HO2 : Hid (World.ownsRow w3 w.heap.size 32 2 u (Vd.cornersI r (k + 1 + 1)).length (flat (Vd.cornersI r (k + 1 + 1)))) := by
              rw [HSk.out, hX]; simp only [ne_eq, not_true_eq_false, decide_false, Bool.false_eq_true, if_false, List.append_nil]; exact own_up HO.out HU3.out
            have hX' := bne_eq_false_iff_eq.2 hX
            subst hX
            go_wp2
            go_roundw
            case rel => exact ⟨k + 1, _, by go_num, rfl, by omega, HU.out.trans HU3.out, HO2, .inr (by omega)⟩
            case measure => simp [intOf]; omega
          · have hX1 := bne_iff_ne.2 hX
            have hX2 := beq_eq_false_iff_ne.2 hX
            have g0 := HU3.out.cell D0.out
            have g1 := HU3.out.cell D1.out
            try dsimp only at g0 g1
            have HOA : Hid (∀ o, (w3.alloc o).ownsRow w.heap.size 32 2 u (Vd.cornersI r (k + 1)).length (flat (Vd.cornersI r (k + 1)))) := fun o => (own_up HO.out HU3.out).alloc o
            have hb : Hid ((Vd.cornersI r (k + 1)).length ≤ 1073741824) := by have := HLn.out (k + 1); show _ ≤ _; omega
            have hsz : Hid (w.heap.size ≤ w3.heap.size) := Nat.le_trans hTs.out HU3.out.size
            go_wp2_with (at_builtin; refine wpList_app el_pts rfl (.tmp 41) (.tmp 46) rfl w.heap.size _ _ _ (by rfl) (HOA.out _) w3.heap.size [.int .i64 qx, .int .i64 qy] (by rfl) rfl (heap_alloc_new w3 _) (by intro x hx; simp at hx; rcases hx with rfl | rfl <;> rfl) hb.out (by simp; have := hsz.out; omega) ?_; intro g cap w5 hown5 hg5 hat5 hlt5; have HO5 := hide hown5; have HU5 : Hid (Up w w5) := Fr.up (S := fun _ => False) (((Fr.of_up (HU.out.trans HU3.out)).alloc _).grown hg5 fun x hx => .inr (own_lt HO.out hx).1) (fun _ _ h => h); clear hown5 hg5 hat5 hlt5 g0 g1)
            go_roundw
            case rel => exact ⟨k + 1, _, by go_num, rfl, by omega, HU5, by rw [HSk.out]; simp only [hX, ne_eq, not_false_eq_true, decide_true, if_true]; rw [flat_append, List.length_append]; exact HO5, .inr (by omega)⟩
            case measure => simp [intOf]; omega
    · have HR : Hid (Vd.cornersI r (k + 1) = Vd.corners r) := by
        rw [HD.out]
        rcases HK0.out with h | h
        · subst h
          have e := HS.out 0
          rcases (show r.length = 0 ∨ r.length = 1 by omega) with h | h
          · rw [h, H1.out]; exact rfl
          · rw [h]; exact rfl
        · rw [show k + 1 = r.length by omega]; exact rfl
      rw [HR.out] at HO
      have i9 : ¬ (k : Int) + 1 < (r.length : Int) := by omega
      go_wp2
      go_ret
      exact ⟨_, rfl, HU.out, HO.out⟩
end Go.Proofs.YtcclepohmhdpbaaGreatDoor

/- THE WALKS: package canon: least, turnsLeft, ringForm. -/
namespace Go.Proofs.YtcclepohmhdpbaaGreatDoor
set_option linter.all false
open Go.RowKit Go.Deep

namespace Vd
theorem leastN_succ (v : Ring) (n : Nat) : leastN v (n + 1) = leastS v (leastN v n) n := by
  unfold leastN; rw [List.range_succ, List.foldl_append]; rfl
theorem leastN_le (v : Ring) : ∀ n, leastN v n ≤ n - 1
  | 0 => Nat.le_refl _
  | n + 1 => by
    rw [leastN_succ]; unfold leastS
    have := leastN_le v n
    split <;> omega
end Vd
set_option maxRecDepth 8000 in
set_option maxHeartbeats 4000000 in
theorem least2_any (v : Value) (r : Ring) (w : World) (hv : Rd1 w v r) (hr : r.length ≤ 1048576) :
    Calls Tryz.prog 206 #[v] w fun e w' => e = .returned (.int .i64 (Vd.leastI r)) ∧ Up w w' := by
  obtain ⟨ao, cap, rfl, hm⟩ := hv
  have HM := hide hm
  have HS := hide (fun n => Vd.leastN_succ r n)
  have HL := hide (fun n => Vd.leastN_le r n)
  have HD : Hid (Vd.leastI r = Vd.leastN r r.length) := rfl
  clear hm
  go_enter Tryz.func206, Tryz.ntmps206
  go_wp2
  go_loopw [3, 8] (fun fv i wr => ∃ (k f : Nat), i = .int .i64 k ∧ fv = .int .i64 f ∧ k ≤ r.length ∧ Hid (Up w wr) ∧ Hid (f = Vd.leastN r k)) (fun _ i _ => r.length - (intOf i).toNat)
  case atStart => exact ⟨0, 0, rfl, rfl, Nat.zero_le _, Up.refl _, rfl⟩
  case round =>
    obtain ⟨k, f, rfl, rfl, hk, HU, HF⟩ := hrel
    by_cases hlt : k < r.length
    · obtain ⟨⟨px, py⟩, hp⟩ := Pl.some_of_lt hlt
      have hfl : f < r.length := by have := HL.out k; rw [← HF.out] at this; omega
      obtain ⟨⟨qx, qy⟩, hq⟩ := Pl.some_of_lt hfl
      obtain ⟨b, rfl, c0, c1⟩ := HM.out k _ hp
      obtain ⟨b', e', d0, d1⟩ := HM.out f _ hq
      cases e'
      have e0 := HU.out.cell c0
      have e1 := HU.out.cell c1
      have HUT : Hid (Up wr (wr.alloc (.cells #[.int .i64 px, .int .i64 py] 32))) := (Up.refl _).alloc _
      have RN := hide (new_row (w := wr) (o := .cells #[.int .i64 px, .int .i64 py] 32) (vs := [.int .i64 px, .int .i64 py]) rfl)
      have g0 := cell_gr (HUT.out.cell (HU.out.cell d0))
      have g1 := cell_gr (HUT.out.cell (HU.out.cell d1))
      have q0 := RN.out.gr (i := 0) rfl
      have q1 := RN.out.gr (i := 1) rfl
      have HK : Hid (∀ g : Gr (wr.alloc (.cells #[.int .i64 px, .int .i64 py] 32)), Calls Tryz.prog 236 #[.agg #[.int .i64 px, .int .i64 py], .agg #[.int .i64 qx, .int .i64 qy]] g.v fun e w' => e = .returned (.bool (decide (Vd.bef (px, py) (qx, qy)))) ∧ Up g.v w') := fun g => before_any (px, py) (qx, qy) g.v
      have HSk : Hid (Vd.leastN r (k + 1) = if Vd.bef (px, py) (qx, qy) then k else f) := by
        rw [HS.out, ← HF.out]; unfold Vd.leastS; rw [ptAt_some hp, ptAt_some hq]; exact rfl
      have i1 : (0 : Int) ≤ (k : Int) := by omega
      have i2 : (k : Int) < (r.length : Int) := by omega
      have i3 : (0 : Int) ≤ (f : Int) := by omega
      have i4 : (f : Int) < (r.length : Int) := by omega
      try dsimp only at e0 e1 g0 g1 q0 q1
      by_cases hb : Vd.bef (px, py) (qx, qy)
      all_goals
        first | rw [decide_eq_true hb] at HK | rw [decide_eq_false hb] at HK
        first | rw [if_pos hb] at HSk | rw [if_neg hb] at HSk
        clear hp hq c0 c1 d0 d1 hb
        go_upto_region 5 with fail
        refine wp_region_up (by kernel_rfl) (by kernel_rfl) ?_
        repeat (first | go_big_quiet_step ((go_at_call 236; exact Calls.up_of (HK.out _))))
        refine wpQuiet_nil ?_
        rintro w3 ⟨⟨_, u3⟩, rfl⟩
        have HU3 := hide (HU.out.trans (HUT.out.trans u3))
        clear u3 e0 e1 g0 g1 q0 q1 HK
        go_wp2
        go_roundw
        case rel => exact ⟨k + 1, _, by go_num, rfl, by omega, HU3, HSk.out.symm⟩
        case measure => simp [intOf]; omega
    · have hk2 : k = r.length := by omega
      have HR : Hid (f = Vd.leastI r) := by rw [HD.out, HF.out, hk2]; exact rfl
      have i9 : ¬ (k : Int) < (r.length : Int) := by omega
      clear hk2
      go_wp2
      go_ret
      exact ⟨ret_i (by rw [HR.out]), HU.out⟩

set_option maxRecDepth 8000 in
set_option maxHeartbeats 4000000 in
theorem turnsLeft_any (v : Value) (r : Ring) (k : Nat) (w : World) (hv : Rd1 w v r) (hr : r.length ≤ 1048576) (hc : Vd.CdR r) (hk : k < r.length) :
    Calls Tryz.prog 207 #[v, .int .i64 k] w fun e w' => e = .returned (.bool (Vd.lefts r k)) ∧ Up w w' := by
  obtain ⟨ao, cap, rfl, hm⟩ := hv
  have hpl : (k + r.length - 1) % r.length < r.length := Nat.mod_lt _ (by omega)
  have hnl : (k + 1) % r.length < r.length := Nat.mod_lt _ (by omega)
  obtain ⟨⟨px, py⟩, hp⟩ := Pl.some_of_lt hpl
  obtain ⟨⟨qx, qy⟩, hq⟩ := Pl.some_of_lt hk
  obtain ⟨⟨nx, ny⟩, hn⟩ := Pl.some_of_lt hnl
  obtain ⟨b, rfl, c0, c1⟩ := hm _ _ hp
  obtain ⟨b', e', d0, d1⟩ := hm _ _ hq
  cases e'
  obtain ⟨b', e', n0, n1⟩ := hm _ _ hn
  cases e'
  have HR : Hid (Vd.lefts r k = decide (0 < Vd.side ((px, py), (qx, qy)) (Vd.at1 (nx, ny)))) := by unfold Vd.lefts; rw [ptAt_some hp, ptAt_some hq, ptAt_some hn]; exact rfl
  have Cp := hide (hc _ (Pl.mem_of_some hp))
  have Cq := hide (hc _ (Pl.mem_of_some hq))
  have Cn := hide (hc _ (Pl.mem_of_some hn))
  have j1 : IntKind.i64.wrap ((k : Int) + (r.length : Int)) = (k : Int) + (r.length : Int) := wrap_id (by omega) (by omega)
  have j2 : IntKind.i64.wrap ((k : Int) + (r.length : Int) - 1) = (k : Int) + (r.length : Int) - 1 := wrap_id (by omega) (by omega)
  have j3 : IntKind.i64.wrap ((k : Int) + 1) = (k : Int) + 1 := wrap_id (by omega) (by omega)
  have jn : ¬ r = [] := fun e => by subst e; simp at hk
  obtain ⟨P, hP⟩ : ∃ P, (k + r.length - 1) % r.length = P := ⟨_, rfl⟩
  obtain ⟨N, hN⟩ : ∃ N, (k + 1) % r.length = N := ⟨_, rfl⟩
  have j4 : ((k : Int) + (r.length : Int) - 1).tmod (r.length : Int) = (P : Int) := by
    rw [← hP, show (k : Int) + (r.length : Int) - 1 = ((k + r.length - 1 : Nat) : Int) by omega]; exact rfl
  have j5 : ((k : Int) + 1).tmod (r.length : Int) = (N : Int) := by rw [← hN]; exact rfl
  rw [hP] at c0 c1 hpl
  rw [hN] at n0 n1 hnl
  have k1 : (P : Int) < (r.length : Int) := by omega
  have k2 : (N : Int) < (r.length : Int) := by omega
  have k3 : (k : Int) < (r.length : Int) := by omega
  have k4 : (0 : Int) ≤ (P : Int) := by omega
  have k5 : (0 : Int) ≤ (N : Int) := by omega
  have k6 : (0 : Int) ≤ (k : Int) := by omega
  have c0a := fun o => ((Up.refl w).alloc o).cell c0
  have c1a := fun o => ((Up.refl w).alloc o).cell c1
  have d0a := fun o => ((Up.refl w).alloc o).cell d0
  have d1a := fun o => ((Up.refl w).alloc o).cell d1
  try dsimp only at c0 c1 d0 d1 n0 n1 c0a c1a d0a d1a
  have N0 := hide n0
  have N1 := hide n1
  clear hm hc hp hq hn hP hN n0 n1
  go_enter Tryz.func207, Tryz.ntmps207
  go_upto_region 2 with fail
  go_cut [6] (fun sl wc => ∃ S : Nat, sl = .pointer (some ⟨S, 0, none⟩) ∧ Hid (Up w wc) ∧ Hid (VRow wc S 191 [.int .i64 px, .int .i64 py, .int .i64 qx, .int .i64 qy]))
  case first =>
    go_region
    all_goals
      go_wp2
      go_meet
      case rel => exact ⟨w.heap.size, rfl, (by first | exact ((Up.refl w).alloc _).drew | exact (Up.refl w).alloc _ | exact ((Up.refl w).drew.alloc _)), (by first | exact VRow.drewN (VRow.new w _ _) 1 | exact VRow.new w _ _)⟩
  case rest =>
    obtain ⟨S, rfl, HUc, RS⟩ := hcut
    clear c0 c1 d0 d1 c0a c1a d0a d1a
    have s0 := RS.out.gr (i := 0) rfl
    have s1 := RS.out.gr (i := 1) rfl
    have s2 := RS.out.gr (i := 2) rfl
    have s3 := RS.out.gr (i := 3) rfl
    have q0 := cell_gr (HUc.out.cell N0.out)
    have q1 := cell_gr (HUc.out.cell N1.out)
    have HA : Hid (∀ g : Gr wc, Calls Tryz.prog 199 #[.agg #[.int .i64 nx, .int .i64 ny]] g.v fun e w' => e = .returned (.agg #[.int .i64 nx, .int .i64 ny, .int .i64 1]) ∧ Up g.v w') := fun g => at_any (nx, ny) g.v
    have HB : Hid (∀ g : Gr wc, Calls Tryz.prog 233 #[.agg #[.int .i64 px, .int .i64 py, .int .i64 qx, .int .i64 qy], .agg #[.int .i64 nx, .int .i64 ny, .int .i64 1]] g.v fun e w' => e = .returned (.int .i64 (Vd.side ((px, py), (qx, qy)) (Vd.at1 (nx, ny)))) ∧ Up g.v w') := fun g => side_any ((px, py), (qx, qy)) (Vd.at1 (nx, ny)) ⟨Cp.out, Cq.out⟩ (Vd.at1_sp Cn.out) g.v
    generalize Vd.side ((px, py), (qx, qy)) (Vd.at1 (nx, ny)) = X at *
    go_wp2_with fail
    refine wp_region_up (by kernel_rfl) (by kernel_rfl) ?_
    repeat (first | go_big_quiet_step (first | (go_at_call 199; exact Calls.up_of (HA.out _)) | (go_at_call 233; exact Calls.up_of (HB.out _))))
    refine wpQuiet_nil ?_
    rintro w3 ⟨⟨_, u3⟩, rfl⟩
    have HU3 := hide (HUc.out.trans u3)
    clear u3 q0 q1 s0 s1 s2 s3 HA HB RS HUc
    go_wp2
    go_ret
    exact ⟨ret_b (by rw [HR.out]), HU3.out⟩
end Go.Proofs.YtcclepohmhdpbaaGreatDoor

/- THE WALKS: package canon: ringForm. -/
namespace Go.Proofs.YtcclepohmhdpbaaGreatDoor
set_option linter.all false
open Go.RowKit Go.Deep

namespace Vd
theorem corners_mem {r : Ring} {p : Pnt} (h : p ∈ corners r) : p ∈ r := by
  unfold corners cornersI at h
  obtain ⟨i, hi, rfl⟩ := List.mem_map.1 h
  have hl := List.mem_range.1 (List.mem_filter.1 hi).1
  obtain ⟨x, hx⟩ := Pl.some_of_lt hl
  unfold ptAt; rw [List.getD_eq_getElem?_getD, hx]
  exact Pl.mem_of_some hx
theorem corners_cd {r : Ring} (h : CdR r) : CdR (corners r) := fun p hp => h p (corners_mem hp)
theorem leastI_lt {v : Ring} (h : v.length ≠ 0) : leastI v < v.length := by have := leastN_le v v.length; unfold leastI; omega
theorem stepI_le {v : Ring} (l : Bool) (h : v.length ≠ 0) : stepI v l ≤ v.length := by unfold stepI; split <;> omega
theorem rForm_len {r : Ring} {l : Bool} (h : (corners r).length ≠ 0) : (ringForm r l).length = (corners r).length + 1 := by unfold ringForm; rw [if_neg h]; simp
theorem rForm_at {r : Ring} {l : Bool} (h : (corners r).length ≠ 0) {k : Nat} (hk : k < (corners r).length + 1) : (ringForm r l)[k]? = some (ptAt (corners r) ((leastI (corners r) + k * stepI (corners r) l) % (corners r).length)) := by
  unfold ringForm; rw [if_neg h, List.getElem?_map, List.getElem?_range hk]; rfl
end Vd
/-- A ring that is being laid. -/
def fillP (L : Ring) (k : Nat) : Ring := L.take k ++ zpts (L.length - k)
theorem fillP_zero (L : Ring) : fillP L 0 = zpts L.length := by simp [fillP]
theorem fillP_all (L : Ring) : fillP L L.length = L := by simp [fillP, zpts]
theorem fillP_len (L : Ring) {k : Nat} (h : k ≤ L.length) : (fillP L k).length = L.length := by simp [fillP, zpts]; omega
theorem fillP_set {L : Ring} {k : Nat} {p : Pnt} (h : L[k]? = some p) : (fillP L k).set k p = fillP L (k + 1) := by
  have hk := Pl.lt_of_some h
  unfold fillP zpts
  rw [Pl.take_one h, List.set_append_right _ _ (by rw [List.length_take]; omega), List.length_take, show k - min k L.length = 0 by omega, show L.length - k = L.length - (k + 1) + 1 by omega, List.replicate_succ, List.set_cons_zero]
  simp
theorem fillP_at {L : Ring} {k : Nat} (h : k < L.length) : (fillP L k)[k]? = some (0, 0) := by
  unfold fillP zpts
  rw [List.getElem?_append_right (by rw [List.length_take]; omega), List.length_take, show k - min k L.length = 0 by omega, show L.length - k = L.length - (k + 1) + 1 by omega, List.replicate_succ]; rfl

set_option maxRecDepth 8000 in
set_option maxHeartbeats 8000000 in
theorem ringForm_any (v : Value) (r : Ring) (l : Bool) (w : World) (hv : Rd1 w v r) (hr : r.length ≤ 1048575) (hc : Vd.CdR r) (h0 : (Vd.corners r).length ≠ 0) :
    Calls Tryz.prog 167 #[v, .bool l] w fun e w' => ∃ g : Nat, e = .returned (.slice (some ⟨g, 0, none⟩) (Vd.ringForm r l).length (Vd.ringForm r l).length) ∧ w.heap.size ≤ g ∧ PRow w' g (Vd.ringForm r l) ∧ Up w w' := by
  have hlen : (Vd.corners r).length ≤ r.length := by have := Vd.cornersI_len r r.length; exact this
  have HV := hide hv
  have HC := hide hc
  have HCV := hide (Vd.corners_cd hc)
  have HF : Hid (∀ k, k < (Vd.corners r).length + 1 → (Vd.ringForm r l)[k]? = some (Vd.ptAt (Vd.corners r) ((Vd.leastI (Vd.corners r) + k * Vd.stepI (Vd.corners r) l) % (Vd.corners r).length))) := fun k hk => Vd.rForm_at h0 hk
  have hfl := Vd.leastI_lt h0
  have hsl := Vd.stepI_le l h0
  have HLn := hide (Vd.rForm_len (l := l) h0)
  obtain ⟨ao0, cap0, rfl, -⟩ := HV.out
  clear hv hc
  have HCo := hide (corners_any _ r w HV.out (by omega) HC.out)
  have HSt : Hid (Vd.stepI (Vd.corners r) l = if Vd.lefts (Vd.corners r) (Vd.leastI (Vd.corners r)) = l then 1 else (Vd.corners r).length - 1) := rfl
  generalize Vd.corners r = V at *
  generalize Vd.ringForm r l = L at *
  generalize hf : Vd.leastI V = f at *
  generalize hs : Vd.stepI V l = s at *
  have Hf := hide hf
  clear hf hs
  have j0 : ((V.length : Int) == 0) = false := beq_eq_false_iff_ne.2 (by omega)
  have jn : ¬ V = [] := fun e => by subst e; simp at h0
  go_enter Tryz.func167, Tryz.ntmps167
  go_wp2_with fail
  refine HCo.out.mono ?_
  rintro e w1 ⟨u, rfl, hu1, ho⟩
  have HU1 := hide hu1
  obtain ⟨ao, cap, rfl⟩ := own_len ho
  have HR1 := hide (own_rd1 ho)
  clear hu1 ho HCo
  go_wp2_with fail
  refine (least2_any _ V w1 HR1.out (by omega)).mono ?_
  rintro e w2 ⟨rfl, hu2⟩
  rw [Hf.out]
  have HU2 := hide (HU1.out.trans hu2)
  have HR2 := hide (HR1.out.up hu2)
  clear hu2
  go_wp2_with fail
  refine (turnsLeft_any _ V f w2 HR2.out (by omega) HCV.out hfl).mono ?_
  rintro e w3 ⟨rfl, hu3⟩
  have HU3 := hide (HU2.out.trans hu3)
  have HR3 := hide (HR2.out.up hu3)
  clear hu3
  have HLe : Hid (L.length = V.length + 1) := HLn.out
  have hmk : ∀ w : World, (Instr.makeSlice 30 (.int .i64 ((V.length : Int) + 1)) (.int .i64 ((V.length : Int) + 1))).run Tryz.prog w = .ok (.slice (some ⟨w.heap.size, 0, none⟩) (V.length + 1) (V.length + 1)) (w.alloc (.cells (flat (zpts (V.length + 1))).toArray 32)) := fun w => make_pts (V.length + 1) (by omega) w
  have j1 : IntKind.i64.wrap ((V.length : Int) + 1) = (V.length : Int) + 1 := wrap_id (by omega) (by omega)
  have j2 : IntKind.i64.wrap ((V.length : Int) - 1) = (V.length : Int) - 1 := wrap_id (by omega) (by omega)
  have hcs : (Vd.lefts V f = l ∧ s = 1) ∨ (Vd.lefts V f ≠ l ∧ s = V.length - 1) := by
    by_cases h : Vd.lefts V f = l
    · exact .inl ⟨h, by rw [HSt.out, if_pos h]⟩
    · exact .inr ⟨h, by rw [HSt.out, if_neg h]⟩
  clear HSt
  generalize Vd.lefts V f = B at *
  rcases hcs with ⟨hB, hs⟩ | ⟨hB, hs⟩
  · have hB1 : (B != l) = false := by rw [hB]; simp
    have hB2 : (B == l) = true := by rw [hB]; simp
    subst hs
    clear hB
    go_wp2_with fail
    have HUp : Hid (Up w3 (w3.alloc (.cells (flat (zpts (V.length + 1))).toArray 32))) := (Up.refl _).alloc _
    have RB : Hid (PRow (w3.alloc (.cells (flat (zpts (V.length + 1))).toArray 32)) w3.heap.size (fillP L 0)) := by
      rw [fillP_zero, HLe.out]; exact VRow.new w3 _ _
    have hbase : Hid (w.heap.size ≤ w3.heap.size) := HU3.out.size
    obtain ⟨G, hG⟩ : ∃ G, w3.heap.size = G := ⟨_, rfl⟩
    rw [hG] at RB hbase ⊢
    have HG := hide hG
    generalize w3.alloc (.cells (flat (zpts (V.length + 1))).toArray 32) = W0 at *
    clear hmk hG
    go_loopw [31] (fun i wq => ∃ t : Nat, i = .int .i64 t ∧ t ≤ V.length + 1 ∧ Hid (Up w3 wq) ∧ Hid (PRow wq G (fillP L t))) (fun i _ => V.length + 1 - (intOf i).toNat)
    case atStart => exact ⟨0, rfl, Nat.zero_le _, HUp, RB⟩
    case round =>
      clear HUp RB
      obtain ⟨t, rfl, ht, HUq, RB⟩ := hrel
      by_cases hlt : t < V.length + 1
      · have hmul : t * 1 ≤ (V.length + 1) * V.length := Nat.mul_le_mul (by omega) (by omega)
        have hmul2 : (V.length + 1) * V.length ≤ 1048577 * 1048576 := Nat.mul_le_mul (by omega) (by omega)
        obtain ⟨P, hP⟩ : ∃ P, (f + t * 1) % V.length = P := ⟨_, rfl⟩
        have hPl : P < V.length := by rw [← hP]; exact Nat.mod_lt _ (by omega)
        obtain ⟨⟨px, py⟩, hp⟩ := Pl.some_of_lt hPl
        obtain ⟨ao', cap', e', hm⟩ := HR3.out
        cases e'
        obtain ⟨b, rfl, c0, c1⟩ := hm P _ hp
        have k0 := HUq.out.cell c0
        have k1 := HUq.out.cell c1
        have HLt := hide (HF.out t hlt)
        rw [hP, ptAt_some hp] at HLt
        have m3 : IntKind.i64.wrap ((f : Int) + (t : Int)) = (f : Int) + (t : Int) := wrap_id (by omega) (by omega)
        have m4 : ((f : Int) + (t : Int)).tmod (V.length : Int) = (P : Int) := by
          rw [show (f : Int) + (t : Int) = ((f + t * 1 : Nat) : Int) by omega, ← hP]; exact rfl
        have m5 : IntKind.i64.wrap (t : Int) = (t : Int) := wrap_id (by omega) (by omega)
        have n1 : (0 : Int) ≤ (P : Int) := by omega
        have n2 : (P : Int) < (V.length : Int) := by omega
        have n3 : (0 : Int) ≤ (t : Int) := by omega
        have n4 : (t : Int) < (V.length : Int) + 1 := by omega
        have hLt : t < L.length := by rw [HLe.out]; exact hlt
        have z0 := (PRow.cells RB.out (fillP_at hLt)).1
        have z1 := (PRow.cells RB.out (fillP_at hLt)).2
        have zf := fun i => VRow.frozen RB.out i
        have hlow : Hid (w3.heap.size ≤ G) := Nat.le_of_eq HG.out
        try dsimp only at k0 k1 z0 z1
        clear hm hp c0 c1 hP hmul hmul2
        go_wp2
        go_roundw
        case rel => exact ⟨t + 1, by go_num, by omega, (HUq.out.setCell hlow.out _).setCell hlow.out _, by have := PRow.set RB.out t (px, py); rw [fillP_set HLt.out] at this; exact this⟩
        case measure => simp [intOf]; omega
      · have e : t = L.length := by rw [HLe.out]; omega
        have HRr : Hid (PRow wr G L) := by have := RB.out; rw [e, fillP_all] at this; exact this
        have n4 : ¬ (t : Int) < (V.length : Int) + 1 := by omega
        clear e
        go_wp2
        go_ret
        exact ⟨G, by rw [HLe.out]; rfl, hbase.out, HRr.out, HU3.out.trans HUq.out⟩
  · have hB1 : (B != l) = true := by simpa using hB
    have hB2 : (B == l) = false := by simpa using hB
    have hsI : (V.length : Int) - 1 = (s : Int) := by omega
    clear hB hs
    go_wp2_with fail
    have HUp : Hid (Up w3 (w3.alloc (.cells (flat (zpts (V.length + 1))).toArray 32))) := (Up.refl _).alloc _
    have RB : Hid (PRow (w3.alloc (.cells (flat (zpts (V.length + 1))).toArray 32)) w3.heap.size (fillP L 0)) := by
      rw [fillP_zero, HLe.out]; exact VRow.new w3 _ _
    have hbase : Hid (w.heap.size ≤ w3.heap.size) := HU3.out.size
    obtain ⟨G, hG⟩ : ∃ G, w3.heap.size = G := ⟨_, rfl⟩
    rw [hG] at RB hbase ⊢
    have HG := hide hG
    generalize w3.alloc (.cells (flat (zpts (V.length + 1))).toArray 32) = W0 at *
    clear hmk hG
    go_loopw [31] (fun i wq => ∃ t : Nat, i = .int .i64 t ∧ t ≤ V.length + 1 ∧ Hid (Up w3 wq) ∧ Hid (PRow wq G (fillP L t))) (fun i _ => V.length + 1 - (intOf i).toNat)
    case atStart => exact ⟨0, rfl, Nat.zero_le _, HUp, RB⟩
    case round =>
      clear HUp RB
      obtain ⟨t, rfl, ht, HUq, RB⟩ := hrel
      by_cases hlt : t < V.length + 1
      · have hmul : t * s ≤ (V.length + 1) * V.length := Nat.mul_le_mul (by omega) hsl
        have hmul2 : (V.length + 1) * V.length ≤ 1048577 * 1048576 := Nat.mul_le_mul (by omega) (by omega)
        obtain ⟨P, hP⟩ : ∃ P, (f + t * s) % V.length = P := ⟨_, rfl⟩
        have hPl : P < V.length := by rw [← hP]; exact Nat.mod_lt _ (by omega)
        obtain ⟨⟨px, py⟩, hp⟩ := Pl.some_of_lt hPl
        obtain ⟨ao', cap', e', hm⟩ := HR3.out
        cases e'
        obtain ⟨b, rfl, c0, c1⟩ := hm P _ hp
        have k0 := HUq.out.cell c0
        have k1 := HUq.out.cell c1
        have HLt := hide (HF.out t hlt)
        rw [hP, ptAt_some hp] at HLt
        have m1 : (t : Int) * (s : Int) = ((t * s : Nat) : Int) := by rw [Int.natCast_mul]
        have m2 : IntKind.i64.wrap ((t : Int) * (s : Int)) = (t : Int) * (s : Int) := wrap_id (by rw [m1]; omega) (by rw [m1]; omega)
        have m3 : IntKind.i64.wrap ((f : Int) + (t : Int) * (s : Int)) = (f : Int) + (t : Int) * (s : Int) := wrap_id (by rw [m1]; omega) (by rw [m1]; omega)
        have m4 : ((f : Int) + (t : Int) * (s : Int)).tmod (V.length : Int) = (P : Int) := by
          rw [m1, show (f : Int) + ((t * s : Nat) : Int) = ((f + t * s : Nat) : Int) by omega, ← hP]; exact rfl
        have n1 : (0 : Int) ≤ (P : Int) := by omega
        have n2 : (P : Int) < (V.length : Int) := by omega
        have n3 : (0 : Int) ≤ (t : Int) := by omega
        have n4 : (t : Int) < (V.length : Int) + 1 := by omega
        have hLt : t < L.length := by rw [HLe.out]; exact hlt
        have z0 := (PRow.cells RB.out (fillP_at hLt)).1
        have z1 := (PRow.cells RB.out (fillP_at hLt)).2
        have zf := fun i => VRow.frozen RB.out i
        have hlow : Hid (w3.heap.size ≤ G) := Nat.le_of_eq HG.out
        try dsimp only at k0 k1 z0 z1
        clear hm hp c0 c1 hP m1 hmul hmul2
        go_wp2
        go_roundw
        case rel => exact ⟨t + 1, by go_num, by omega, (HUq.out.setCell hlow.out _).setCell hlow.out _, by have := PRow.set RB.out t (px, py); rw [fillP_set HLt.out] at this; exact this⟩
        case measure => simp [intOf]; omega
      · have e : t = L.length := by rw [HLe.out]; omega
        have HRr : Hid (PRow wr G L) := by have := RB.out; rw [e, fillP_all] at this; exact this
        have n4 : ¬ (t : Int) < (V.length : Int) + 1 := by omega
        clear e
        go_wp2
        go_ret
        exact ⟨G, by rw [HLe.out]; rfl, hbase.out, HRr.out, HU3.out.trans HUq.out⟩
end Go.Proofs.YtcclepohmhdpbaaGreatDoor
