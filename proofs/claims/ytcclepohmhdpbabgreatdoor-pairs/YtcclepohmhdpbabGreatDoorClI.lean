import Derived.Test.YtcclepohmhdpbabGreatDoorClD
import Derived.Test.YtcclepohmhdpbabGreatDoorClC
import Derived.Test.YtcclepohmhdpbabGreatDoorNoted
import Derived.Test.YtcclepohmhdpbabGreatDoorCnP
/- THE WALKS: package clauses: touch points. -/
namespace Go.Proofs.YtcclepohmhdpbabGreatDoor
set_option linter.all false
open Go.RowKit Go.Deep

theorem own_rd1 {w : World} {base : Nat} {e : TypeId} {v : Value} {l : Ring} (h : w.ownsRow base e 2 v l.length (flat l)) : Rd1 w v l := by
  obtain ⟨ao, cap, ev⟩ := own_len h
  refine ⟨ao, cap, ev, fun i p hp => ?_⟩
  obtain ⟨g, cap', e', hc⟩ := own_cell h (by have := Pl.lt_of_some hp; omega)
  rw [ev] at e'
  cases e'
  have := flat_at _ _ _ hp
  exact ⟨g, rfl, hc _ _ this.1, hc _ _ this.2⟩
theorem mem_take_succ {a : List Pnt} {k : Nat} {q p : Pnt} (h : a[k]? = some q) (h1 : p ∉ a.take k) (h2 : p ≠ q) : p ∉ a.take (k + 1) := by
  rw [Pl.take_one h, List.mem_append, List.mem_singleton]
  rintro (h | h)
  · exact h1 h
  · exact h2 h

set_option maxHeartbeats 4000000 in
theorem isAmong_any (v : Value) (a : Ring) (p : Pnt) (w : World) (hv : Rd1 w v a) (ha : a.length ≤ 1048576) :
    Calls Tryz.prog 131 #[v, ptV p] w fun e w' => e = .returned (.bool (decide (p ∈ a))) ∧ Up w w' := by
  obtain ⟨ao, cap, rfl, hm⟩ := hv
  obtain ⟨px, py⟩ := p
  have HM := hide hm
  clear hm
  simp only [ptV]
  have R0 := hide (new_row (w := w) (o := .cells #[.int .i64 px, .int .i64 py] 48) (vs := [.int .i64 px, .int .i64 py]) rfl)
  have HU0 : Hid (Up w (w.alloc (.cells #[.int .i64 px, .int .i64 py] 48))) := (Up.refl _).alloc _
  go_enter Tryz.func131, Tryz.ntmps131
  go_wp2
  go_loopw [9] (fun i wr => ∃ k : Nat, i = .int .i64 k ∧ k ≤ a.length ∧ Hid (Up w wr) ∧ Hid (VRow wr w.heap.size 48 [.int .i64 px, .int .i64 py]) ∧ Hid ((px, py) ∉ a.take k)) (fun i _ => a.length - (intOf i).toNat)
  case atStart => exact ⟨0, rfl, Nat.zero_le _, HU0, R0, by simp [Hid]⟩
  case round =>
    clear HU0 R0
    obtain ⟨k, rfl, hk, HU, R0, HN⟩ := hrel
    by_cases hlt : k < a.length
    · obtain ⟨⟨qx, qy⟩, hq⟩ := Pl.some_of_lt hlt
      obtain ⟨b, rfl, c0, c1⟩ := HM.out k _ hq
      have d0 := HU.out.cell c0
      have d1 := HU.out.cell c1
      have p0 := fun o => (R0.out.alloc o).cell (i := 0) rfl
      have p1 := fun o => (R0.out.alloc o).cell (i := 1) rfl
      have Hq := hide hq
      dsimp only at d0 d1
      clear hq c0 c1
      by_cases h1 : px = qx
      · by_cases h2 : py = qy
        · subst h1 h2
          have HT : Hid (decide ((px, py) ∈ a) = true) := decide_eq_true (Pl.mem_of_some Hq.out)
          go_wp2
          go_ret
          exact ⟨ret_b HT.out.symm, HU.out.alloc _⟩
        · have HN2 := hide (mem_take_succ Hq.out HN.out (fun e => h2 (by cases e; rfl)))
          subst h1
          have h2' := beq_eq_false_iff_ne.2 h2
          go_wp2
          go_roundw
          case rel => exact ⟨k + 1, by go_num, by omega, HU.out.alloc _, R0.out.alloc _, HN2⟩
          case measure => simp [intOf]; omega
      · have HN2 := hide (mem_take_succ Hq.out HN.out (fun e => h1 (by cases e; rfl)))
        have h1' := beq_eq_false_iff_ne.2 h1
        go_wp2
        go_roundw
        case rel => exact ⟨k + 1, by go_num, by omega, HU.out.alloc _, R0.out.alloc _, HN2⟩
        case measure => simp [intOf]; omega
    · have hk2 : k = a.length := by omega
      subst hk2
      rw [List.take_length] at HN
      have HT : Hid (decide ((px, py) ∈ a) = false) := decide_eq_false HN.out
      go_wp2
      go_ret
      exact ⟨ret_b HT.out.symm, HU.out⟩

/-- the rings so far. -/
def rgN (l : Poly) (p : Pnt) (n : Nat) : List Nat := (List.range n).filter fun i => decide (Vd.place (Vd.rAt l i) (Vd.at1 p) = 1)
theorem rgN_all (l : Poly) (p : Pnt) : rgN l p l.length = Vd.ringsAt l p := rfl
theorem rgN_yes {l : Poly} {p : Pnt} {k : Nat} {r : Ring} (h : l[k]? = some r) (hp : Vd.place r (Vd.at1 p) = 1) : rgN l p (k + 1) = rgN l p k ++ [k] := by
  unfold rgN; rw [List.range_succ, List.filter_append, List.filter_cons, rAt_some h, hp]; rfl
theorem rgN_no {l : Poly} {p : Pnt} {k : Nat} {r : Ring} (h : l[k]? = some r) (hp : Vd.place r (Vd.at1 p) ≠ 1) : rgN l p (k + 1) = rgN l p k := by
  unfold rgN; rw [List.range_succ, List.filter_append, List.filter_cons, rAt_some h, if_neg (by simpa using hp)]; simp
theorem rgN_len (l : Poly) (p : Pnt) (n : Nat) : (rgN l p n).length ≤ n := by unfold rgN; have := List.length_filter_le (fun i => decide (Vd.place (Vd.rAt l i) (Vd.at1 p) = 1)) (List.range n); simpa using this

set_option maxHeartbeats 4000000 in
theorem ringsAt_any (v : Value) (l : Poly) (p : Pnt) (w : World) (hv : Rd2 w v l) (hl : l.length ≤ 1048576) (hl2 : ∀ r ∈ l, r.length ≤ 1048576) (hc : Vd.CdL l) (hp : Vd.Cd p) :
    Calls Tryz.prog 98 #[v, ptV p] w fun e w' => ∃ u, e = .returned u ∧ Up w w' ∧ w'.ownsRow w.heap.size 3 1 u (Vd.ringsAt l p).length (flatG intC (Vd.ringsAt l p)) := by
  obtain ⟨ao, cap, rfl, hm⟩ := hv
  have HM := hide hm
  have HC := hide hc
  have HL := hide hl2
  have HP := hide hp
  have HR := hide (rgN_all l p)
  have HLn := hide (rgN_len l p)
  have HY := hide (fun k r => rgN_yes (l := l) (p := p) (k := k) (r := r))
  have HNo := hide (fun k r => rgN_no (l := l) (p := p) (k := k) (r := r))
  obtain ⟨px, py⟩ := p
  clear hm hc hl2 hp
  simp only [ptV]
  have R0 := hide (new_row (w := w) (o := .cells #[.int .i64 px, .int .i64 py] 48) (vs := [.int .i64 px, .int .i64 py]) rfl)
  have HU0 : Hid (Up w (w.alloc (.cells #[.int .i64 px, .int .i64 py] 48))) := (Up.refl _).alloc _
  go_enter Tryz.func98, Tryz.ntmps98
  go_wp2
  go_loopw [5, 10] (fun av i wr => ∃ (k : Nat) (u : Value), i = .int .i64 k ∧ u = av ∧ k ≤ l.length ∧ Hid (Up w wr) ∧ Hid (VRow wr w.heap.size 48 [.int .i64 px, .int .i64 py]) ∧ Hid (wr.ownsRow w.heap.size 3 1 u (rgN l (px, py) k).length (flatG intC (rgN l (px, py) k)))) (fun _ i _ => l.length - (intOf i).toNat)
  case atStart => exact ⟨0, _, rfl, rfl, Nat.zero_le _, HU0, R0, World.ownsRow_nil _ _ _ _⟩
  case round =>
    clear HU0 R0
    obtain ⟨k, u, rfl, rfl, hk, HU, R0, HO⟩ := hrel
    by_cases hlt : k < l.length
    · obtain ⟨r, hr⟩ := Pl.some_of_lt hlt
      obtain ⟨b, y, rfl, cu, hy⟩ := HM.out k r hr
      have Hy := hide (hy.up HU.out)
      have cu2 := HU.out.cell cu
      have Hr := hide hr
      have HrL := hide (HL.out r (Pl.mem_of_some hr))
      have HrC := hide (HC.out r (Pl.mem_of_some hr))
      have p0 := R0.out.cell (i := 0) rfl
      have p1 := R0.out.cell (i := 1) rfl
      clear hr cu hy
      go_wp2_with fail
      refine (at_any (px, py) _).mono ?_
      rintro e w2 ⟨rfl, hz2⟩
      replace hz2 := hide hz2
      go_wp2_with fail
      refine (place_any _ r (Vd.at1 (px, py)) _ (Hy.out.up hz2.out) HrL.out HrC.out (Vd.at1_sp HP.out)).mono ?_
      rintro e w3 ⟨rfl, hz3⟩
      have HZ := hide (hz2.out.trans hz3)
      have HU3 := hide (HU.out.trans HZ.out)
      have R3 := hide (R0.out.up HZ.out)
      have HO3 := hide (own_up HO.out HZ.out)
      clear hz2 hz3 cu2 p0 p1
      by_cases hx : Vd.place r (Vd.at1 (px, py)) = 1
      · have HE := hide (HY.out k r Hr.out hx)
        rw [hx]
        clear hx
        have HOA := hide (HO3.out.alloc (.cells #[.int .i64 (k : Int)] 3))
        have hb : Hid ((rgN l (px, py) k).length ≤ 1073741824) := by have := HLn.out k; show _ ≤ _; omega
        have hsz := hide HU3.out.size
        go_wp2_with (at_builtin; refine wpList_app el_ints rfl (.tmp 20) (.tmp 22) rfl w.heap.size _ _ _ (by rfl) HOA.out w3.heap.size [.int .i64 (k : Int)] (by rfl) rfl (heap_alloc_new w3 _) (by intro x hx; simp at hx; subst hx; rfl) hb.out (by simp; have := hsz.out; omega) ?_; intro g cap w5 hown5 hg5 hat5 hlt5; replace hown5 := hide hown5; replace hg5 := hide hg5; clear hat5 hlt5)
        go_roundw
        case rel =>
          refine ⟨k + 1, _, by go_num, rfl, by omega, ?_, ?_, ?_⟩
          · exact Fr.up (S := fun _ => False) (((Fr.of_up HU3.out).alloc _).grown hg5.out fun x hx => .inr (own_lt HOA.out hx).1) (fun _ _ h => h)
          · exact (R3.out.alloc _).grown hg5.out (own_row_ne HOA.out (R3.out.alloc _) (by decide))
          · rw [HE.out, flatG_append, List.length_append]; exact hown5.out
        case measure => simp [intOf]; omega
      · have HE := hide (HNo.out k r Hr.out hx)
        have hx' := beq_eq_false_iff_ne.2 hx
        clear hx
        generalize Vd.place r (Vd.at1 (px, py)) = P at *
        go_wp2
        go_roundw
        case rel => exact ⟨k + 1, _, by go_num, rfl, by omega, HU3, R3, by rw [HE.out]; exact HO3⟩
        case measure => simp [intOf]; omega
    · have hk2 : k = l.length := by omega
      subst hk2
      go_wp2
      go_ret
      exact ⟨_, rfl, HU.out, by rw [← HR.out]; exact HO.out⟩
end Go.Proofs.YtcclepohmhdpbabGreatDoor

/- THE WALKS: package canon: ringForm. -/
namespace Go.Proofs.YtcclepohmhdpbabGreatDoor
set_option linter.all false
open Go.RowKit Go.Deep

namespace Vd
theorem corners_mem {r : Ring} {p : Pnt} (h : p ∈ corners r) : p ∈ r := by
  unfold corners cornersI at h
  obtain ⟨i, hi, rfl⟩ := List.mem_map.1 h
  have hl := List.mem_range.1 (List.mem_filter.1 hi).1
  obtain ⟨x, hx⟩ := Pl.some_of_lt hl
  unfold ptAt; rw [List.getD_eq_getElem?_getD, hx]
  exact Pl.mem_of_some hx
theorem corners_cd {r : Ring} (h : CdR r) : CdR (corners r) := fun p hp => h p (corners_mem hp)
theorem leastI_lt {v : Ring} (h : v.length ≠ 0) : leastI v < v.length := by have := leastN_le v v.length; unfold leastI; omega
theorem stepI_le {v : Ring} (l : Bool) (h : v.length ≠ 0) : stepI v l ≤ v.length := by unfold stepI; split <;> omega
theorem rForm_len {r : Ring} {l : Bool} (h : (corners r).length ≠ 0) : (ringForm r l).length = (corners r).length + 1 := by unfold ringForm; rw [if_neg h]; simp
theorem rForm_at {r : Ring} {l : Bool} (h : (corners r).length ≠ 0) {k : Nat} (hk : k < (corners r).length + 1) : (ringForm r l)[k]? = some (ptAt (corners r) ((leastI (corners r) + k * stepI (corners r) l) % (corners r).length)) := by
  unfold ringForm; rw [if_neg h, List.getElem?_map, List.getElem?_range hk]; rfl
end Vd
/-- A ring that is being laid. -/
def fillP (L : Ring) (k : Nat) : Ring := L.take k ++ zpts (L.length - k)
theorem fillP_zero (L : Ring) : fillP L 0 = zpts L.length := by simp [fillP]
theorem fillP_all (L : Ring) : fillP L L.length = L := by simp [fillP, zpts]
theorem fillP_len (L : Ring) {k : Nat} (h : k ≤ L.length) : (fillP L k).length = L.length := by simp [fillP, zpts]; omega
theorem fillP_set {L : Ring} {k : Nat} {p : Pnt} (h : L[k]? = some p) : (fillP L k).set k p = fillP L (k + 1) := by
  have hk := Pl.lt_of_some h
  unfold fillP zpts
  rw [Pl.take_one h, List.set_append_right _ _ (by rw [List.length_take]; omega), List.length_take, show k - min k L.length = 0 by omega, show L.length - k = L.length - (k + 1) + 1 by omega, List.replicate_succ, List.set_cons_zero]
  simp
theorem fillP_at {L : Ring} {k : Nat} (h : k < L.length) : (fillP L k)[k]? = some (0, 0) := by
  unfold fillP zpts
  rw [List.getElem?_append_right (by rw [List.length_take]; omega), List.length_take, show k - min k L.length = 0 by omega, show L.length - k = L.length - (k + 1) + 1 by omega, List.replicate_succ]; rfl

set_option maxRecDepth 8000 in
set_option maxHeartbeats 8000000 in
theorem ringForm_any (v : Value) (r : Ring) (l : Bool) (w : World) (hv : Rd1 w v r) (hr : r.length ≤ 1048575) (hc : Vd.CdR r) (h0 : (Vd.corners r).length ≠ 0) :
    Calls Tryz.prog 60 #[v, .bool l] w fun e w' => ∃ g : Nat, e = .returned (.slice (some ⟨g, 0, none⟩) (Vd.ringForm r l).length (Vd.ringForm r l).length) ∧ w.heap.size ≤ g ∧ PRow w' g (Vd.ringForm r l) ∧ Up w w' := by
  have hlen : (Vd.corners r).length ≤ r.length := by have := Vd.cornersI_len r r.length; exact this
  have HV := hide hv
  have HC := hide hc
  have HCV := hide (Vd.corners_cd hc)
  have HF : Hid (∀ k, k < (Vd.corners r).length + 1 → (Vd.ringForm r l)[k]? = some (Vd.ptAt (Vd.corners r) ((Vd.leastI (Vd.corners r) + k * Vd.stepI (Vd.corners r) l) % (Vd.corners r).length))) := fun k hk => Vd.rForm_at h0 hk
  have hfl := Vd.leastI_lt h0
  have hsl := Vd.stepI_le l h0
  have HLn := hide (Vd.rForm_len (l := l) h0)
  obtain ⟨ao0, cap0, rfl, -⟩ := HV.out
  clear hv hc
  have HCo := hide (corners_any _ r w HV.out (by omega) HC.out)
  have HSt : Hid (Vd.stepI (Vd.corners r) l = if Vd.lefts (Vd.corners r) (Vd.leastI (Vd.corners r)) = l then 1 else (Vd.corners r).length - 1) := rfl
  generalize Vd.corners r = V at *
  generalize Vd.ringForm r l = L at *
  generalize hf : Vd.leastI V = f at *
  generalize hs : Vd.stepI V l = s at *
  have Hf := hide hf
  clear hf hs
  have j0 : ((V.length : Int) == 0) = false := beq_eq_false_iff_ne.2 (by omega)
  have jn : ¬ V = [] := fun e => by subst e; simp at h0
  go_enter Tryz.func60, Tryz.ntmps60
  go_wp2_with fail
  refine HCo.out.mono ?_
  rintro e w1 ⟨u, rfl, hu1, ho⟩
  have HU1 := hide hu1
  obtain ⟨ao, cap, rfl⟩ := own_len ho
  have HR1 := hide (own_rd1 ho)
  clear hu1 ho HCo
  go_wp2_with fail
  refine (least2_any _ V w1 HR1.out (by omega)).mono ?_
  rintro e w2 ⟨rfl, hu2⟩
  rw [Hf.out]
  have HU2 := hide (HU1.out.trans hu2)
  have HR2 := hide (HR1.out.up hu2)
  clear hu2
  go_wp2_with fail
  refine (turnsLeft_any _ V f w2 HR2.out (by omega) HCV.out hfl).mono ?_
  rintro e w3 ⟨rfl, hu3⟩
  have HU3 := hide (HU2.out.trans hu3)
  have HR3 := hide (HR2.out.up hu3)
  clear hu3
  have HLe : Hid (L.length = V.length + 1) := HLn.out
  have hmk : ∀ w : World, (Instr.makeSlice 46 (.int .i64 ((V.length : Int) + 1)) (.int .i64 ((V.length : Int) + 1))).run Tryz.prog w = .ok (.slice (some ⟨w.heap.size, 0, none⟩) (V.length + 1) (V.length + 1)) (w.alloc (.cells (flat (zpts (V.length + 1))).toArray 48)) := fun w => make_pts (V.length + 1) (by omega) w
  have j1 : IntKind.i64.wrap ((V.length : Int) + 1) = (V.length : Int) + 1 := wrap_id (by omega) (by omega)
  have j2 : IntKind.i64.wrap ((V.length : Int) - 1) = (V.length : Int) - 1 := wrap_id (by omega) (by omega)
  have hcs : (Vd.lefts V f = l ∧ s = 1) ∨ (Vd.lefts V f ≠ l ∧ s = V.length - 1) := by
    by_cases h : Vd.lefts V f = l
    · exact .inl ⟨h, by rw [HSt.out, if_pos h]⟩
    · exact .inr ⟨h, by rw [HSt.out, if_neg h]⟩
  clear HSt
  generalize Vd.lefts V f = B at *
  rcases hcs with ⟨hB, hs⟩ | ⟨hB, hs⟩
  · have hB1 : (B != l) = false := by rw [hB]; simp
    have hB2 : (B == l) = true := by rw [hB]; simp
    subst hs
    clear hB
    go_wp2_with fail
    have HUp : Hid (Up w3 (w3.alloc (.cells (flat (zpts (V.length + 1))).toArray 48))) := (Up.refl _).alloc _
    have RB : Hid (PRow (w3.alloc (.cells (flat (zpts (V.length + 1))).toArray 48)) w3.heap.size (fillP L 0)) := by
      rw [fillP_zero, HLe.out]; exact VRow.new w3 _ _
    have hbase : Hid (w.heap.size ≤ w3.heap.size) := HU3.out.size
    obtain ⟨G, hG⟩ : ∃ G, w3.heap.size = G := ⟨_, rfl⟩
    rw [hG] at RB hbase ⊢
    have HG := hide hG
    generalize w3.alloc (.cells (flat (zpts (V.length + 1))).toArray 48) = W0 at *
    clear hmk hG
    go_loopw [31] (fun i wq => ∃ t : Nat, i = .int .i64 t ∧ t ≤ V.length + 1 ∧ Hid (Up w3 wq) ∧ Hid (PRow wq G (fillP L t))) (fun i _ => V.length + 1 - (intOf i).toNat)
    case atStart => exact ⟨0, rfl, Nat.zero_le _, HUp, RB⟩
    case round =>
      clear HUp RB
      obtain ⟨t, rfl, ht, HUq, RB⟩ := hrel
      by_cases hlt : t < V.length + 1
      · have hmul : t * 1 ≤ (V.length + 1) * V.length := Nat.mul_le_mul (by omega) (by omega)
        have hmul2 : (V.length + 1) * V.length ≤ 1048577 * 1048576 := Nat.mul_le_mul (by omega) (by omega)
        obtain ⟨P, hP⟩ : ∃ P, (f + t * 1) % V.length = P := ⟨_, rfl⟩
        have hPl : P < V.length := by rw [← hP]; exact Nat.mod_lt _ (by omega)
        obtain ⟨⟨px, py⟩, hp⟩ := Pl.some_of_lt hPl
        obtain ⟨ao', cap', e', hm⟩ := HR3.out
        cases e'
        obtain ⟨b, rfl, c0, c1⟩ := hm P _ hp
        have k0 := HUq.out.cell c0
        have k1 := HUq.out.cell c1
        have HLt := hide (HF.out t hlt)
        rw [hP, ptAt_some hp] at HLt
        have m3 : IntKind.i64.wrap ((f : Int) + (t : Int)) = (f : Int) + (t : Int) := wrap_id (by omega) (by omega)
        have m4 : ((f : Int) + (t : Int)).tmod (V.length : Int) = (P : Int) := by
          rw [show (f : Int) + (t : Int) = ((f + t * 1 : Nat) : Int) by omega, ← hP]; exact rfl
        have m5 : IntKind.i64.wrap (t : Int) = (t : Int) := wrap_id (by omega) (by omega)
        have n1 : (0 : Int) ≤ (P : Int) := by omega
        have n2 : (P : Int) < (V.length : Int) := by omega
        have n3 : (0 : Int) ≤ (t : Int) := by omega
        have n4 : (t : Int) < (V.length : Int) + 1 := by omega
        have hLt : t < L.length := by rw [HLe.out]; exact hlt
        have z0 := (PRow.cells RB.out (fillP_at hLt)).1
        have z1 := (PRow.cells RB.out (fillP_at hLt)).2
        have zf := fun i => VRow.frozen RB.out i
        have hlow : Hid (w3.heap.size ≤ G) := Nat.le_of_eq HG.out
        try dsimp only at k0 k1 z0 z1
        clear hm hp c0 c1 hP hmul hmul2
        go_wp2
        go_roundw
        case rel => exact ⟨t + 1, by go_num, by omega, (HUq.out.setCell hlow.out _).setCell hlow.out _, by have := PRow.set RB.out t (px, py); rw [fillP_set HLt.out] at this; exact this⟩
        case measure => simp [intOf]; omega
      · have e : t = L.length := by rw [HLe.out]; omega
        have HRr : Hid (PRow wr G L) := by have := RB.out; rw [e, fillP_all] at this; exact this
        have n4 : ¬ (t : Int) < (V.length : Int) + 1 := by omega
        clear e
        go_wp2
        go_ret
        exact ⟨G, by rw [HLe.out]; rfl, hbase.out, HRr.out, HU3.out.trans HUq.out⟩
  · have hB1 : (B != l) = true := by simpa using hB
    have hB2 : (B == l) = false := by simpa using hB
    have hsI : (V.length : Int) - 1 = (s : Int) := by omega
    clear hB hs
    go_wp2_with fail
    have HUp : Hid (Up w3 (w3.alloc (.cells (flat (zpts (V.length + 1))).toArray 48))) := (Up.refl _).alloc _
    have RB : Hid (PRow (w3.alloc (.cells (flat (zpts (V.length + 1))).toArray 48)) w3.heap.size (fillP L 0)) := by
      rw [fillP_zero, HLe.out]; exact VRow.new w3 _ _
    have hbase : Hid (w.heap.size ≤ w3.heap.size) := HU3.out.size
    obtain ⟨G, hG⟩ : ∃ G, w3.heap.size = G := ⟨_, rfl⟩
    rw [hG] at RB hbase ⊢
    have HG := hide hG
    generalize w3.alloc (.cells (flat (zpts (V.length + 1))).toArray 48) = W0 at *
    clear hmk hG
    go_loopw [31] (fun i wq => ∃ t : Nat, i = .int .i64 t ∧ t ≤ V.length + 1 ∧ Hid (Up w3 wq) ∧ Hid (PRow wq G (fillP L t))) (fun i _ => V.length + 1 - (intOf i).toNat)
    case atStart => exact ⟨0, rfl, Nat.zero_le _, HUp, RB⟩
    case round =>
      clear HUp RB
      obtain ⟨t, rfl, ht, HUq, RB⟩ := hrel
      by_cases hlt : t < V.length + 1
      · have hmul : t * s ≤ (V.length + 1) * V.length := Nat.mul_le_mul (by omega) hsl
        have hmul2 : (V.length + 1) * V.length ≤ 1048577 * 1048576 := Nat.mul_le_mul (by omega) (by omega)
        obtain ⟨P, hP⟩ : ∃ P, (f + t * s) % V.length = P := ⟨_, rfl⟩
        have hPl : P < V.length := by rw [← hP]; exact Nat.mod_lt _ (by omega)
        obtain ⟨⟨px, py⟩, hp⟩ := Pl.some_of_lt hPl
        obtain ⟨ao', cap', e', hm⟩ := HR3.out
        cases e'
        obtain ⟨b, rfl, c0, c1⟩ := hm P _ hp
        have k0 := HUq.out.cell c0
        have k1 := HUq.out.cell c1
        have HLt := hide (HF.out t hlt)
        rw [hP, ptAt_some hp] at HLt
        have m1 : (t : Int) * (s : Int) = ((t * s : Nat) : Int) := by rw [Int.natCast_mul]
        have m2 : IntKind.i64.wrap ((t : Int) * (s : Int)) = (t : Int) * (s : Int) := wrap_id (by rw [m1]; omega) (by rw [m1]; omega)
        have m3 : IntKind.i64.wrap ((f : Int) + (t : Int) * (s : Int)) = (f : Int) + (t : Int) * (s : Int) := wrap_id (by rw [m1]; omega) (by rw [m1]; omega)
        have m4 : ((f : Int) + (t : Int) * (s : Int)).tmod (V.length : Int) = (P : Int) := by
          rw [m1, show (f : Int) + ((t * s : Nat) : Int) = ((f + t * s : Nat) : Int) by omega, ← hP]; exact rfl
        have n1 : (0 : Int) ≤ (P : Int) := by omega
        have n2 : (P : Int) < (V.length : Int) := by omega
        have n3 : (0 : Int) ≤ (t : Int) := by omega
        have n4 : (t : Int) < (V.length : Int) + 1 := by omega
        have hLt : t < L.length := by rw [HLe.out]; exact hlt
        have z0 := (PRow.cells RB.out (fillP_at hLt)).1
        have z1 := (PRow.cells RB.out (fillP_at hLt)).2
        have zf := fun i => VRow.frozen RB.out i
        have hlow : Hid (w3.heap.size ≤ G) := Nat.le_of_eq HG.out
        try dsimp only at k0 k1 z0 z1
        clear hm hp c0 c1 hP m1 hmul hmul2
        go_wp2
        go_roundw
        case rel => exact ⟨t + 1, by go_num, by omega, (HUq.out.setCell hlow.out _).setCell hlow.out _, by have := PRow.set RB.out t (px, py); rw [fillP_set HLt.out] at this; exact this⟩
        case measure => simp [intOf]; omega
      · have e : t = L.length := by rw [HLe.out]; omega
        have HRr : Hid (PRow wr G L) := by have := RB.out; rw [e, fillP_all] at this; exact this
        have n4 : ¬ (t : Int) < (V.length : Int) + 1 := by omega
        clear e
        go_wp2
        go_ret
        exact ⟨G, by rw [HLe.out]; rfl, hbase.out, HRr.out, HU3.out.trans HUq.out⟩
end Go.Proofs.YtcclepohmhdpbabGreatDoor

/- THE WALKS: package clauses: touchPoints. -/
namespace Go.Proofs.YtcclepohmhdpbabGreatDoor
set_option linter.all false
open Go.RowKit Go.Deep

/-- the touch points so far. -/
def tpN (l : Poly) (ps : List Pnt) : List Pnt := ps.foldl (Vd.touchF l) []
theorem tpN_snoc (l : Poly) (ps : List Pnt) (p : Pnt) : tpN l (ps ++ [p]) = Vd.touchF l (tpN l ps) p := by unfold tpN; rw [List.foldl_append]; rfl
theorem touchF_len (l : Poly) (a : List Pnt) (p : Pnt) : (Vd.touchF l a p).length ≤ a.length + 1 := by unfold Vd.touchF; split <;> simp
theorem tpN_len (l : Poly) : ∀ (ps : List Pnt) (a : List Pnt), (ps.foldl (Vd.touchF l) a).length ≤ a.length + ps.length := by
  intro ps
  induction ps with
  | nil => intro a; simp
  | cons p t ih => intro a; rw [List.foldl_cons]; have := ih (Vd.touchF l a p); have := touchF_len l a p; simp; omega
theorem touchF_yes {l : Poly} {a : List Pnt} {p : Pnt} (h1 : decide (p ∈ a) = false) (h2 : 1 < (Vd.ringsAt l p).length) : Vd.touchF l a p = a ++ [p] := if_pos ⟨of_decide_eq_false h1, h2⟩
theorem touchF_in {l : Poly} {a : List Pnt} {p : Pnt} (h1 : decide (p ∈ a) = true) : Vd.touchF l a p = a := if_neg fun h => h.1 (of_decide_eq_true h1)
theorem touchF_few {l : Poly} {a : List Pnt} {p : Pnt} (h2 : ¬ 1 < (Vd.ringsAt l p).length) : Vd.touchF l a p = a := if_neg fun h => h2 h.2
theorem ringsAt_len (l : Poly) (p : Pnt) : (Vd.ringsAt l p).length ≤ l.length := rgN_len l p l.length

set_option maxHeartbeats 8000000 in
theorem touchPoints_any (v : Value) (l : Poly) (w : World) (hv : Rd2 w v l) (hl : l.length ≤ 1048576) (hl2 : ∀ r ∈ l, r.length ≤ 1048576) (hf : l.flatten.length ≤ 1048576) (hc : Vd.CdL l) :
    Calls Tryz.prog 96 #[v] w fun e w' => ∃ u, e = .returned u ∧ Up w w' ∧ w'.ownsRow w.heap.size 48 2 u (Vd.touchPts l).length (flat (Vd.touchPts l)) := by
  have HV := hide hv
  obtain ⟨ao, cap, rfl, hm⟩ := hv
  have HM := hide hm
  have HC := hide hc
  have HL := hide hl2
  have HF := hide hf
  clear hm hc hl2 hf
  go_enter Tryz.func96, Tryz.ntmps96
  go_wp2
  go_loopw [3, 10] (fun av i wr => ∃ (k : Nat) (u : Value), i = .int .i64 k ∧ u = av ∧ k ≤ l.length ∧ Hid (Up w wr) ∧ Hid (wr.ownsRow w.heap.size 48 2 u (tpN l (l.take k).flatten).length (flat (tpN l (l.take k).flatten)))) (fun _ i _ => l.length - (intOf i).toNat)
  case atStart => exact ⟨0, _, rfl, rfl, Nat.zero_le _, Up.refl _, World.ownsRow_nil _ _ _ _⟩
  case round =>
    obtain ⟨k, u, rfl, rfl, hk, HU, HO⟩ := hrel
    by_cases hlt : k < l.length
    · obtain ⟨r, hr⟩ := Pl.some_of_lt hlt
      obtain ⟨b, y, rfl, cu, hy⟩ := HM.out k r hr
      obtain ⟨ao2, cap2, rfl, hp⟩ := hy
      have HP := hide hp
      have cu2 := HU.out.cell cu
      have hrl := HL.out r (Pl.mem_of_some hr)
      have HrC := hide (HC.out r (Pl.mem_of_some hr))
      have HFl := hide (flat_take hr)
      have HFb : Hid ((l.take k).flatten.length + r.length ≤ 1048576) := by
        have h1 : (l.take (k + 1)).flatten.length ≤ l.flatten.length := by
          conv => rhs; rw [← List.take_append_drop (k + 1) l, List.flatten_append, List.length_append]
          omega
        rw [flat_take hr, List.length_append] at h1
        have := HF.out
        show _ ≤ _
        omega
      clear hr cu hp
      go_wp2
      clear cu2
      go_loopw [3, 16] (fun av i wr => ∃ (q : Nat) (u : Value), i = .int .i64 q ∧ u = av ∧ q ≤ r.length ∧ Hid (Up w wr) ∧ Hid (wr.ownsRow w.heap.size 48 2 u (tpN l ((l.take k).flatten ++ r.take q)).length (flat (tpN l ((l.take k).flatten ++ r.take q))))) (fun _ i _ => r.length - (intOf i).toNat)
      case atStart => exact ⟨0, _, rfl, rfl, Nat.zero_le _, HU, by rw [List.take_zero, List.append_nil]; exact HO⟩
      case round =>
        clear HU HO
        obtain ⟨q, u, rfl, rfl, hq, HU, HO⟩ := hrel
        by_cases hlq : q < r.length
        · obtain ⟨⟨px, py⟩, hxy⟩ := Pl.some_of_lt hlq
          obtain ⟨b2, rfl, cx, cy⟩ := HP.out q (px, py) hxy
          have cx' := HU.out.cell cx
          have cy' := HU.out.cell cy
          dsimp only at cx' cy'
          have HCp := hide (HrC.out _ (Pl.mem_of_some hxy))
          have HX : Hid (tpN l ((l.take k).flatten ++ r.take (q + 1)) = Vd.touchF l (tpN l ((l.take k).flatten ++ r.take q)) (px, py)) := by
            rw [Pl.take_one hxy, ← List.append_assoc, tpN_snoc]; exact rfl
          have hal : (tpN l ((l.take k).flatten ++ r.take q)).length ≤ 1048576 := by
            have h1 := tpN_len l ((l.take k).flatten ++ r.take q) []
            have h2 := HFb.out
            simp only [List.length_append, List.length_take, List.length_nil] at h1
            unfold tpN
            omega
          generalize hT : tpN l ((l.take k).flatten ++ r.take q) = T at *
          have HO' := hide (own_rd1 HO.out)
          obtain ⟨ta, tc, rfl⟩ := own_len HO.out
          clear hxy cx cy hT
          go_wp2_with fail
          have RP := hide (new_row (w := wr) (o := .cells #[.int .i64 px, .int .i64 py] 48) (vs := [.int .i64 px, .int .i64 py]) rfl)
          refine (isAmong_any _ T (px, py) _ (HO'.out.up ((Up.refl _).alloc _)) hal).mono ?_
          rintro e w2 ⟨rfl, hz2⟩
          have RP2 := hide (RP.out.up hz2)
          have HU2 : Hid (Up w w2) := (HU.out.alloc _).trans hz2
          have HO2 := hide (own_up HO.out (((Up.refl wr).alloc _).trans hz2))
          have p0 := RP2.out.cell (i := 0) rfl
          have p1 := RP2.out.cell (i := 1) rfl
          clear hz2 cx' cy' RP
          cases hin : decide ((px, py) ∈ T)
          · have Hin := hide hin
            clear hin
            go_wp2_with fail
            refine (ringsAt_any _ l (px, py) _ (HV.out.up HU2.out) hl HL.out HC.out HCp.out).mono ?_
            rintro e w3 ⟨rv, rfl, hz3, hro⟩
            obtain ⟨ra, rc, rfl⟩ := own_len hro
            have RP3 := hide (RP2.out.up hz3)
            have HU3 := hide (HU2.out.trans hz3)
            have HO3 := hide (own_up HO2.out hz3)
            have hrn := ringsAt_len l (px, py)
            have g0 := RP3.out.cell (i := 0) rfl
            have g1 := RP3.out.cell (i := 1) rfl
            clear hz3 hro p0 p1
            by_cases hn : 1 < (Vd.ringsAt l (px, py)).length
            · have HE := hide (HX.out.trans (touchF_yes Hin.out hn))
              generalize (Vd.ringsAt l (px, py)).length = n at *
              have HOA := hide (HO3.out.alloc (.cells #[.int .i64 px, .int .i64 py] 48))
              have hb : Hid (T.length ≤ 1073741824) := by show _ ≤ _; omega
              have hsz := hide HU3.out.size
              go_wp2_with (at_builtin; refine wpList_app el_pts rfl (.tmp 31) (.tmp 33) rfl w.heap.size _ _ _ (by rfl) HOA.out w3.heap.size [.int .i64 px, .int .i64 py] (by rfl) rfl (heap_alloc_new w3 _) (by intro x hx; simp at hx; rcases hx with rfl | rfl <;> rfl) hb.out (by simp; have := hsz.out; omega) ?_; intro g cap w5 hown5 hg5 hat5 hlt5; replace hown5 := hide hown5; replace hg5 := hide hg5; clear hat5 hlt5)
              go_roundw
              case rel =>
                refine ⟨q + 1, _, by go_num, rfl, by omega, ?_, ?_⟩
                · exact Fr.up (S := fun _ => False) (((Fr.of_up HU3.out).alloc _).grown hg5.out fun x hx => .inr (own_lt HOA.out hx).1) (fun _ _ h => h)
                · rw [HE.out, flat_append, List.length_append]; exact hown5.out
              case measure => simp [intOf]; omega
            · have HE := hide (HX.out.trans (touchF_few hn))
              generalize (Vd.ringsAt l (px, py)).length = n at *
              go_wp2
              go_roundw
              case rel => exact ⟨q + 1, _, by go_num, rfl, by omega, HU3, by rw [HE.out]; exact HO3⟩
              case measure => simp [intOf]; omega
          · have HE := hide (HX.out.trans (touchF_in hin))
            clear hin
            go_wp2
            go_roundw
            case rel => exact ⟨q + 1, _, by go_num, rfl, by omega, HU2, by rw [HE.out]; exact HO2⟩
            case measure => simp [intOf]; omega
        · have hq2 : q = r.length := by omega
          subst hq2
          rw [List.take_length, ← HFl.out] at HO
          go_wp2
          go_roundw
          case rel => exact ⟨k + 1, _, by go_num, rfl, by omega, HU, HO⟩
          case measure => simp [intOf]; omega
    · have hk2 : k = l.length := by omega
      subst hk2
      rw [List.take_length] at HO
      go_wp2
      go_ret
      exact ⟨_, rfl, HU.out, HO.out⟩
end Go.Proofs.YtcclepohmhdpbabGreatDoor

/- THE WALKS: package clauses: join. -/
namespace Go.Proofs.YtcclepohmhdpbabGreatDoor
set_option linter.all false
open Go.RowKit Go.Deep

theorem fI_at {g : List Nat} {i n : Nat} (h : g[i]? = some n) : (flatG intC g)[i]? = some (.int .i64 n) := by
  have := flatG_at (f := intC) (n := 1) (fun _ => rfl) g i n 0 _ h rfl
  simpa using this
theorem fI_len (g : List Nat) : (flatG intC g).length = g.length := by
  induction g with
  | nil => rfl
  | cons a t ih => show ([_] ++ flatG intC t).length = _; simp [ih]
theorem fI_set (g : List Nat) : ∀ (i n : Nat), flatG intC (g.set i n) = (flatG intC g).set i (.int .i64 n) := by
  induction g with
  | nil => intro i n; rfl
  | cons a t ih =>
    intro i n
    cases i with
    | zero => rfl
    | succ i => show flatG intC (a :: t.set i n) = _; show _ :: flatG intC (t.set i n) = _; rw [ih]; rfl
theorem nAt_some {g : List Nat} {i n : Nat} (h : g[i]? = some n) : Vd.nAt g i = n := by unfold Vd.nAt; rw [List.getD_eq_getElem?_getD, h]; rfl
/-- what the inner loop has made so far. -/
def tgN (g : List Nat) (o f q : Nat) : List Nat := (g.take q).map (Vd.turnG o f) ++ g.drop q
theorem tgN_len (g : List Nat) (o f q : Nat) (h : q ≤ g.length) : (tgN g o f q).length = g.length := by unfold tgN; simp; omega
theorem tgN_at {g : List Nat} {o f q n : Nat} (h : g[q]? = some n) : (tgN g o f q)[q]? = some n := by
  unfold tgN
  have := Pl.lt_of_some h
  rw [List.getElem?_append_right (by simp; omega)]
  simp only [List.length_map, List.length_take, Nat.min_eq_left (Nat.le_of_lt this), Nat.sub_self]
  rw [List.getElem?_drop, Nat.add_zero]; exact h
theorem tgN_yes {g : List Nat} {o f q : Nat} (h : g[q]? = some o) : tgN g o f (q + 1) = (tgN g o f q).set q f := by
  unfold tgN
  have hq := Pl.lt_of_some h
  rw [Pl.take_one h, drop_at h, List.set_append_right (h := by simp; omega)]
  simp only [List.length_map, List.length_take, Nat.min_eq_left (Nat.le_of_lt hq), Nat.sub_self, List.map_append, List.map_cons, List.map_nil, List.set_cons_zero]
  rw [show Vd.turnG o f o = f from if_pos rfl]; simp
theorem tgN_no {g : List Nat} {o f q n : Nat} (h : g[q]? = some n) (hn : n ≠ o) : tgN g o f (q + 1) = tgN g o f q := by
  unfold tgN
  rw [Pl.take_one h]
  conv => rhs; rw [drop_at h]
  rw [List.map_append, List.map_cons, List.map_nil, show Vd.turnG o f n = n from if_neg hn]; simp
theorem tgN_all (g : List Nat) (o f : Nat) : tgN g o f g.length = g.map (Vd.turnG o f) := by unfold tgN; simp
theorem joinL_same {g : List Nat} {a j : Nat} {t : List Nat} (h : Vd.nAt g j = Vd.nAt g a) : Vd.joinL g a (j :: t) = none := by unfold Vd.joinL; rw [if_pos h]
theorem joinL_go {g : List Nat} {a j : Nat} {t : List Nat} (h : Vd.nAt g j ≠ Vd.nAt g a) : Vd.joinL g a (j :: t) = Vd.joinL (g.map (Vd.turnG (Vd.nAt g j) (Vd.nAt g a))) a t := by conv => lhs; unfold Vd.joinL; rw [if_neg h]

/-- what join holds: the struct, its groups, those that are joined. -/
structure JN (w wr : World) (lb gb gc base jb jc : Nat) (n : Nat) (js g : List Nat) : Prop where
  fr : Fr (· = gb) w wr
  row : VRow wr lb 120 [.slice (some ⟨gb, 0, none⟩) n gc]
  own : wr.ownsRow base 3 1 (.slice (some ⟨gb, 0, none⟩) n gc) n (flatG intC g)
  len : g.length = n
  jx : ∀ (i j : Nat), js[i]? = some j → wr.cell? ⟨jb, i, none⟩ = some (.int .i64 j)
  ne : lb ≠ gb
  nj : jb ≠ gb
theorem JN.cell {w wr : World} {lb gb gc base jb jc n : Nat} {js g : List Nat} (h : JN w wr lb gb gc base jb jc n js g) {i m : Nat} (hi : g[i]? = some m) : wr.cell? ⟨gb, i, none⟩ = some (.int .i64 m) := by
  have h2 := h.own
  rw [← h.len] at h2
  obtain ⟨g', cap', e', hc⟩ := own_cell h2 (by have := Pl.lt_of_some hi; omega)
  cases e'
  exact hc i _ (fI_at hi)
theorem JN.drew {w wr : World} {lb gb gc base jb jc n : Nat} {js g : List Nat} (h : JN w wr lb gb gc base jb jc n js g) (k : Nat) : JN w (wr.drewN k) lb gb gc base jb jc n js g :=
  ⟨h.fr.drewN k, h.row, own_up h.own ((Up.refl _).drewN k), h.len, h.jx, h.ne, h.nj⟩
theorem JN.set {w wr : World} {lb gb gc base jb jc n : Nat} {js g : List Nat} (h : JN w wr lb gb gc base jb jc n js g) {i : Nat} (hi : i < n) (m : Nat) : JN w (wr.setCell ⟨gb, i, none⟩ (.int .i64 m)) lb gb gc base jb jc n js (g.set i m) := by
  refine ⟨h.fr.setCell rfl _, h.row.setOther h.ne _, ?_, by simp [h.len], fun x y hx => ?_, h.ne, h.nj⟩
  · rw [fI_set]; exact own_stored h.own rfl hi _
  · have := h.jx x y hx
    rw [World.cell?_of_block (Below.heap_setCell _ _ _ _ (by show jb ≠ gb; exact h.nj))]
    exact this

set_option maxHeartbeats 8000000 in
theorem join_any (lb gb gc base jb jc n : Nat) (a : Nat) (t g : List Nat) (w : World) (h0 : JN w w lb gb gc base jb jc n (a :: t) g) (hn : n ≤ 1048576) (ht : t.length < 1048576) (hj : ∀ j ∈ a :: t, j < n) :
    Calls Tryz.prog 97 #[.pointer (some ⟨lb, 0, none⟩), .slice (some ⟨jb, 0, none⟩) (t.length + 1) jc] w fun e w' => e = .returned (.bool (Vd.join g (a :: t)).isSome) ∧ Fr (· = gb) w w' ∧ ∀ g', Vd.join g (a :: t) = some g' → JN w w' lb gb gc base jb jc n (a :: t) g' := by
  have H0 := hide h0
  have HJ := hide hj
  have HE : Hid (Vd.join g (a :: t) = Vd.joinL g a t) := rfl
  clear h0 hj
  go_enter Tryz.func97, Tryz.ntmps97
  go_wp2
  go_loopw [5] (fun i wr => ∃ (k : Nat) (c : List Nat), i = .int .i64 ((k : Int) + 1) ∧ k ≤ t.length ∧ Hid (JN w wr lb gb gc base jb jc n (a :: t) c) ∧ Hid (Vd.join g (a :: t) = Vd.joinL c a (t.drop k))) (fun i _ => t.length + 1 - (intOf i).toNat)
  case atStart => exact ⟨0, g, rfl, Nat.zero_le _, H0, HE⟩
  case round =>
    obtain ⟨k, c, rfl, hk, HN, HX⟩ := hrel
    by_cases hlt : k < t.length
    · obtain ⟨j, hj⟩ := Pl.some_of_lt hlt
      have hjn := HJ.out j (by simp [Pl.mem_of_some hj])
      have han := HJ.out a (by simp)
      have hcl := HN.out.len
      obtain ⟨mj, hmj⟩ := Pl.some_of_lt (show j < c.length by omega)
      obtain ⟨ma, hma⟩ := Pl.some_of_lt (show a < c.length by omega)
      have c0 := HN.out.row.cell (i := 0) rfl
      have c1 := HN.out.jx (k + 1) j (by simpa using hj)
      have c2 := HN.out.jx 0 a rfl
      have c3 := HN.out.cell hmj
      have c4 := HN.out.cell hma
      have HD := hide (drop_at hj)
      have Hj := hide (nAt_some hmj)
      have Ha := hide (nAt_some hma)
      have i1 : (0 : Int) ≤ (k : Int) + 1 := by omega
      have i2 : (k : Int) + 1 < (t.length : Int) + 1 := by omega
      have i3 : (0 : Int) ≤ (j : Int) := by omega
      have i4 : (j : Int) < (n : Int) := by omega
      have i5 : (0 : Int) ≤ (a : Int) := by omega
      have i6 : (a : Int) < (n : Int) := by omega
      have i7 : (0 : Int) < (t.length : Int) + 1 := by omega
      have Hcl := hide hcl
      clear hj hmj hma hcl
      go_wp2
      go_quiet (fail)
      go_wp2
      go_quiet (fail)
      have HNd := hide (fun m => HN.out.drew m)
      by_cases hm : mj = ma
      · have HR : Hid (Vd.join g (a :: t) = none) := by rw [HX.out, HD.out]; exact joinL_same (by rw [Hj.out, Ha.out, hm])
        subst hm
        go_wp2
        go_ret
        exact ⟨ret_b (by rw [HR.out]; rfl), (HNd.out _).fr, fun g' h => by rw [HR.out] at h; cases h⟩
      · have HR : Hid (Vd.join g (a :: t) = Vd.joinL (c.map (Vd.turnG mj ma)) a (t.drop (k + 1))) := by
          rw [HX.out, HD.out, joinL_go (by rw [Hj.out, Ha.out]; exact hm), Hj.out, Ha.out]; exact rfl
        have hm' : ((mj : Int) == (ma : Int)) = false := beq_eq_false_iff_ne.2 (by omega)
        go_wp2
        clear c0 c1 c2 c3 c4 i3 i4 i5 i6 i7 hm'
        go_loopw [43] (fun i wr => ∃ q : Nat, i = .int .i64 q ∧ q ≤ n ∧ Hid (JN w wr lb gb gc base jb jc n (a :: t) (tgN c mj ma q))) (fun i _ => n - (intOf i).toNat)
        case atStart => exact ⟨0, rfl, Nat.zero_le _, by have := HNd.out; unfold tgN; rw [List.take_zero, List.drop_zero]; exact this _⟩
        case round =>
          obtain ⟨q, rfl, hq, HQ⟩ := hrel
          by_cases hlq : q < n
          · obtain ⟨x, hx⟩ := Pl.some_of_lt (show q < c.length by rw [Hcl.out]; exact hlq)
            have d0 := HQ.out.row.cell (i := 0) rfl
            have d1 := HQ.out.cell (tgN_at hx)
            have df := own_frozen HQ.out.own rfl
            have i8 : (q : Int) < (n : Int) := by omega
            by_cases hxm : x = mj
            · subst hxm
              have HY := hide (tgN_yes (f := ma) hx)
              clear hx
              go_wp2
              go_roundw
              case rel => exact ⟨q + 1, by go_num, by omega, by rw [HY.out]; exact HQ.out.set hlq ma⟩
              case measure => simp [intOf]; omega
            · have HY := hide (tgN_no (f := ma) hx hxm)
              have hxm' : ((x : Int) == (mj : Int)) = false := beq_eq_false_iff_ne.2 (by omega)
              clear hx
              go_wp2
              go_roundw
              case rel => exact ⟨q + 1, by go_num, by omega, by rw [HY.out]; exact HQ⟩
              case measure => simp [intOf]; omega
          · have hq2 : q = c.length := by have := Hcl.out; omega
            subst hq2
            rw [tgN_all] at HQ
            go_wp2
            go_roundw
            case rel => exact ⟨k + 1, _, by go_num, by omega, HQ, HR⟩
            case measure => simp [intOf]; omega
    · have hk2 : k = t.length := by omega
      subst hk2
      rw [List.drop_length] at HX
      have HR : Hid (Vd.join g (a :: t) = some c) := HX.out
      go_wp2
      go_ret
      exact ⟨ret_b (by rw [HR.out]; rfl), HN.out.fr, fun g' h => by rw [HR.out] at h; cases h; exact HN.out⟩
end Go.Proofs.YtcclepohmhdpbabGreatDoor

/- THE WALKS: package clauses: hasWayRound. -/
namespace Go.Proofs.YtcclepohmhdpbabGreatDoor
set_option linter.all false
open Go.RowKit Go.Deep

theorem touch_more {l : Poly} {p : Pnt} (h : p ∈ Vd.touchPts l) : 1 < (Vd.ringsAt l p).length := by
  have := ((Vd.touch_fold l l.flatten [] List.nodup_nil (by simp)).2 p).1 h
  simpa using this.elim (fun x => by cases x) (fun x => x.2)
theorem touch_in {l : Poly} {p : Pnt} (h : p ∈ Vd.touchPts l) : p ∈ l.flatten := by
  have := ((Vd.touch_fold l l.flatten [] List.nodup_nil (by simp)).2 p).1 h
  exact this.elim (fun x => by cases x) (fun x => x.1)
theorem touch_len (l : Poly) : (Vd.touchPts l).length ≤ l.flatten.length := by
  have := tpN_len l l.flatten []
  rw [List.length_nil, Nat.zero_add] at this
  exact this
theorem fI_range (k : Nat) : flatG intC (List.range (k + 1)) = flatG intC (List.range k) ++ [.int .i64 (k : Int)] := by rw [List.range_succ, flatG_append]; rfl
theorem wayL_none {l : Poly} {p : Pnt} {t : List Pnt} {g : List Nat} (h : Vd.join g (Vd.ringsAt l p) = none) : Vd.wayL l (p :: t) g = true := by unfold Vd.wayL; rw [h]
theorem wayL_some {l : Poly} {p : Pnt} {t : List Pnt} {g g' : List Nat} (h : Vd.join g (Vd.ringsAt l p) = some g') : Vd.wayL l (p :: t) g = Vd.wayL l t g' := by conv => lhs; unfold Vd.wayL; rw [h]
theorem ringsAt_lt {l : Poly} {p : Pnt} {j : Nat} (h : j ∈ Vd.ringsAt l p) : j < l.length := (((Vd.at_ringsAt l).mem j p).1 h).1

/-- what hasWayRound holds. -/
structure WY (w wr : World) (gv : Value) (g : List Nat) : Prop where
  up : Up w wr
  row : VRow wr w.heap.size 120 [gv]
  own : wr.ownsRow w.heap.size 3 1 gv g.length (flatG intC g)
theorem WY.keep {w wr w2 : World} {gv : Value} {g : List Nat} (h : WY w wr gv g) (k : Up wr w2) : WY w w2 gv g := ⟨h.up.trans k, h.row.up k, own_up h.own k⟩

set_option maxHeartbeats 8000000 in
theorem way_any (v : Value) (l : Poly) (w : World) (hv : Rd2 w v l) (hl : l.length ≤ 1048576) (hl2 : ∀ r ∈ l, r.length ≤ 1048576) (hf : l.flatten.length ≤ 1048576) (hc : Vd.CdL l) :
    Calls Tryz.prog 65 #[v] w fun e w' => e = .returned (.bool (Vd.way l)) ∧ Up w w' := by
  have HV := hide hv
  have HC := hide hc
  have HL := hide hl2
  have HF := hide hf
  have HW : Hid (Vd.way l = Vd.wayL l (Vd.touchPts l) (List.range l.length)) := rfl
  obtain ⟨ao, cap, rfl, -⟩ := hv
  clear hc hl2 hf
  have H0 : Hid (WY w (w.alloc (.cells #[.slice none 0 0] 120)) (.slice none 0 0) (List.range 0)) :=
    ⟨(Up.refl _).alloc _, new_row (vs := [_]) rfl, World.ownsRow_nil _ _ _ _⟩
  go_enter Tryz.func65, Tryz.ntmps65
  go_wp2
  go_loopw [9] (fun i wr => ∃ (k : Nat) (gv : Value), i = .int .i64 k ∧ k ≤ l.length ∧ Hid (WY w wr gv (List.range k))) (fun i _ => l.length - (intOf i).toNat)
  case atStart => exact ⟨0, _, rfl, Nat.zero_le _, H0⟩
  case round =>
    clear H0
    obtain ⟨k, gv, rfl, hk, HN⟩ := hrel
    by_cases hlt : k < l.length
    · have c0 := HN.out.row.cell (i := 0) rfl
      have HOA : Hid ((wr.alloc (.cells #[.int .i64 (k : Int)] 3)).ownsRow w.heap.size 3 1 gv k (flatG intC (List.range k))) := by
        have := HN.out.own.alloc (.cells #[.int .i64 (k : Int)] 3)
        rw [List.length_range] at this
        exact this
      have hb : Hid (k ≤ 1073741824) := by show _ ≤ _; omega
      have hsz := hide HN.out.up.size
      have RA := hide (HN.out.row.alloc (.cells #[.int .i64 (k : Int)] 3))
      go_wp2_with (at_builtin; refine wpList_app el_ints rfl (.tmp 13) (.tmp 15) rfl w.heap.size _ _ _ (by rfl) HOA.out wr.heap.size [.int .i64 (k : Int)] (by rfl) rfl (heap_alloc_new wr _) (by intro x hx; simp at hx; subst hx; rfl) hb.out (by simp; have := hsz.out; omega) ?_; intro g cap w5 hown5 hg5 hat5 hlt5; have R5 := hide (RA.out.grown hg5 (own_row_ne HOA.out RA.out (by decide))); have d0 := R5.out.cell (i := 0) rfl; have df := R5.out.frozen 0; replace hown5 := hide hown5; replace hg5 := hide hg5; clear hat5 hlt5)
      go_roundw
      case rel =>
        refine ⟨k + 1, .slice (some ⟨g, 0, none⟩) (k + 1) cap, by go_num, by omega, ?_, ?_, ?_⟩
        · exact (Fr.up (S := fun _ => False) (((Fr.of_up HN.out.up).alloc _).grown hg5.out fun x hx => .inr (own_lt HOA.out hx).1) (fun _ _ h => h)).setCell (Nat.le_refl _) _
        · exact R5.out.set 0 _
        · rw [List.length_range, fI_range]
          exact own_set hown5.out (own_row_ne hown5.out R5.out (by decide)) _
      case measure => simp [intOf]; omega
    · have hk2 : k = l.length := by omega
      subst hk2
      go_wp2_with fail
      refine (touchPoints_any _ l _ (HV.out.up HN.out.up) hl HL.out HF.out HC.out).mono ?_
      rintro e w2 ⟨tv, rfl, hz2, hto⟩
      obtain ⟨ta, tc, rfl⟩ := own_len hto
      have HN2 := hide (HN.out.keep hz2)
      have HTo := hide hto
      have HTb := hide HN.out.up.size
      have htl : (Vd.touchPts l).length ≤ 1048576 := Nat.le_trans (touch_len l) HF.out
      have HM : Hid (∀ i p, (Vd.touchPts l)[i]? = some p → 1 < (Vd.ringsAt l p).length ∧ Vd.Cd p) := fun i p hp => ⟨touch_more (Pl.mem_of_some hp), by
        obtain ⟨r, h1, h2⟩ := List.mem_flatten.1 (touch_in (Pl.mem_of_some hp)); exact HC.out r h1 p h2⟩
      generalize Vd.touchPts l = T at *
      clear hz2 hto HN
      go_wp2_with fail
      go_loopw [22] (fun i wq => ∃ (k : Nat) (g : List Nat), i = .int .i64 k ∧ k ≤ T.length ∧ Hid (WY w wq gv g) ∧ Hid (g.length = l.length) ∧ Hid (wq.ownsRow wr.heap.size 48 2 (.slice ta T.length tc) T.length (flat T)) ∧ Hid (Vd.way l = Vd.wayL l (T.drop k) g)) (fun i _ => T.length - (intOf i).toNat)
      case atStart => exact ⟨0, _, rfl, Nat.zero_le _, HN2, List.length_range, HTo, HW⟩
      case round =>
        clear HN2 HTo
        obtain ⟨k, g, rfl, hk, HN, HG, HTo, HX⟩ := hrel
        by_cases hlt : k < T.length
        · obtain ⟨⟨px, py⟩, hp⟩ := Pl.some_of_lt hlt
          obtain ⟨hrn, hcp⟩ := HM.out k _ hp
          obtain ⟨ta', tc', ev, htr⟩ := own_rd1 HTo.out
          cases ev
          obtain ⟨b, rfl, c0, c1⟩ := htr k _ hp
          dsimp only at c0 c1
          have HCp := hide hcp
          have HD := hide (drop_at hp)
          have Hrn := hide hrn
          clear hp hcp hrn htr
          go_wp2_with fail
          refine (ringsAt_any _ l (px, py) _ ((HV.out.up HN.out.up).up ((Up.refl _).alloc _)) hl HL.out HC.out HCp.out).mono ?_
          rintro e w3 ⟨jv, rfl, hz3, hjo⟩
          obtain ⟨a, t, hJ⟩ : ∃ a t, Vd.ringsAt l (px, py) = a :: t := by
            cases hr : Vd.ringsAt l (px, py) with
            | nil => have := Hrn.out; rw [hr] at this; simp at this
            | cons a t => exact ⟨a, t, rfl⟩
          have HJL := hide (fun j (h : j ∈ Vd.ringsAt l (px, py)) => ringsAt_lt h)
          have hjl := ringsAt_len l (px, py)
          have HWn := hide (fun t' g' => wayL_none (l := l) (p := (px, py)) (t := t') (g := g'))
          have HWs := hide (fun t' g' g'' => wayL_some (l := l) (p := (px, py)) (t := t') (g := g') (g' := g''))
          rw [hJ] at hjo HJL hjl HWn HWs
          obtain ⟨jb, jc, ej, hjc⟩ := own_cell hjo (by simp)
          subst ej
          have hn0 : 0 < g.length := by
            rw [HG.out]
            have := HJL.out a (by simp)
            omega
          obtain ⟨gb, gc, eg, -⟩ := own_cell HN.out.own hn0
          subst eg
          have hgn := HG.out
          rw [hgn] at HN
          have hgb : w.heap.size ≤ gb ∧ gb < wr.heap.size := own_lt HN.out.own rfl
          have hjb : wr.heap.size + 1 ≤ jb ∧ jb < w3.heap.size := by have := own_lt hjo (g := jb) rfl; simpa using this
          have HN3 := hide (HN.out.keep (((Up.refl _).alloc _).trans hz3))
          have hne : w.heap.size ≠ gb := fun e => own_row_ne HN.out.own HN.out.row (by decide) (by rw [e]; rfl)
          have HJ : Hid (JN w3 w3 w.heap.size gb gc w.heap.size jb jc l.length (a :: t) g) := by
            refine ⟨Fr.refl _ _, HN3.out.row, ?_, HG.out, fun i j hj => hjc i _ (fI_at hj), hne, by omega⟩
            have := HN3.out.own
            rw [hgn] at this
            exact this
          have HTo3 := hide (own_up HTo.out (((Up.refl _).alloc _).trans hz3))
          have Hgb := hide hgb
          clear hjo hz3 hjc hgn hn0 hne hgb hjb c0 c1 HN HTo
          simp only [List.length_cons] at hjl
          go_wp2_with fail
          refine (join_any w.heap.size gb gc w.heap.size jb jc l.length a t g _ HJ.out hl (by omega) HJL.out).mono ?_
          rintro e w4 ⟨rfl, hfr, hjn⟩
          have HU4 : Hid (Up w w4) := Fr.up (S := fun b => b = gb) ((Fr.of_up HN3.out.up).trans hfr) (fun x hx e => by have := Hgb.out; omega)
          have HTo4 := hide (own_fr HTo3.out hfr fun x hx e => by
            have h1 := own_type HTo3.out hx
            have h2 := own_type HN3.out.own (g := gb) rfl
            obtain ⟨q1, h1⟩ := h1
            obtain ⟨q2, h2⟩ := h2
            rw [e, h2] at h1
            simp at h1)
          cases hj : Vd.join g (a :: t) with
          | none =>
            have HR : Hid (Vd.way l = true) := by rw [HX.out, HD.out]; exact HWn.out _ _ hj
            clear hjn hfr
            go_wp2
            go_ret
            exact ⟨ret_b HR.out.symm, HU4.out⟩
          | some g' =>
            have HR : Hid (Vd.way l = Vd.wayL l (T.drop (k + 1)) g') := by rw [HX.out, HD.out]; exact HWs.out _ _ _ hj
            have HJ4 := hide (hjn g' hj)
            clear hjn hfr
            go_wp2
            go_roundw
            case rel =>
              refine ⟨k + 1, g', by go_num, by omega, ?_, HJ4.out.len, HTo4, HR⟩
              rw [HG.out]
              exact ⟨HU4.out, HJ4.out.row, by have := HJ4.out.own; rw [HJ4.out.len]; exact this⟩
            case measure => simp [intOf]; omega
        · have hk2 : k = T.length := by omega
          subst hk2
          rw [List.drop_length] at HX
          have HR : Hid (Vd.way l = false) := HX.out
          go_wp2
          go_ret
          exact ⟨ret_b HR.out.symm, HN.out.up⟩
end Go.Proofs.YtcclepohmhdpbabGreatDoor

/- THE WALKS: package clauses: isFree, boundsCross, enters. -/
namespace Go.Proofs.YtcclepohmhdpbabGreatDoor
set_option linter.all false
open Go.RowKit Go.Deep

theorem freeL_on {r : Ring} {t : List Ring} {b f : Bool} {p : Vd.Spot} (h : Vd.place r p = 1) : Vd.freeL (r :: t) b f p = false := by unfold Vd.freeL; rw [if_pos h]
theorem freeL_go {r : Ring} {t : List Ring} {b f : Bool} {p : Vd.Spot} (h : Vd.place r p ≠ 1) : Vd.freeL (r :: t) b f p = Vd.freeL t false (f || (b && decide (Vd.place r p = 0)) || (!b && decide (Vd.place r p = 2))) p := by conv => lhs; unfold Vd.freeL; rw [if_neg h]
theorem place_range (r : Ring) (p : Vd.Spot) : ∀ (l : List Vd.Seg) (i : Bool), Vd.placeL l i p = 0 ∨ Vd.placeL l i p = 1 ∨ Vd.placeL l i p = 2 := by
  intro l
  induction l with
  | nil => intro i; cases i <;> simp [Vd.placeL]
  | cons s l ih =>
    intro i
    unfold Vd.placeL
    split
    · simp
    · exact ih _

set_option maxHeartbeats 8000000 in
theorem free_any (v : Value) (l : Poly) (p : Vd.Spot) (w : World) (hv : Rd2 w v l) (hl : l.length ≤ 1048576) (hl2 : ∀ r ∈ l, r.length ≤ 1048576) (hc : Vd.CdL l) (hp : Vd.Sp p) :
    Calls Tryz.prog 100 #[v, spotV p] w fun e w' => e = .returned (.bool (Vd.free l p)) ∧ Up w w' := by
  obtain ⟨ao, cap, rfl, hm⟩ := hv
  have HM := hide hm
  have HC := hide hc
  have HL := hide hl2
  have HP := hide hp
  obtain ⟨⟨x, y⟩, t⟩ := p
  clear hm hc hl2 hp
  simp only [spotV]
  have R0 := hide (new_row (w := w) (o := .cells #[.int .i64 x, .int .i64 y, .int .i64 t] 65) (vs := [.int .i64 x, .int .i64 y, .int .i64 t]) rfl)
  have HU0 : Hid (Up w (w.alloc (.cells #[.int .i64 x, .int .i64 y, .int .i64 t] 65))) := (Up.refl _).alloc _
  go_enter Tryz.func100, Tryz.ntmps100
  go_wp2
  go_loopw [5, 11] (fun fv i wr => ∃ (k : Nat) (f : Bool), i = .int .i64 k ∧ fv = .bool f ∧ k ≤ l.length ∧ Hid (Up w wr) ∧ Hid (VRow wr w.heap.size 65 [.int .i64 x, .int .i64 y, .int .i64 t]) ∧ Hid (Vd.free l ((x, y), t) = Vd.freeL (l.drop k) (decide (k = 0)) f ((x, y), t))) (fun _ i _ => l.length - (intOf i).toNat)
  case atStart => exact ⟨0, false, rfl, rfl, Nat.zero_le _, HU0, R0, rfl⟩
  case round =>
    clear HU0 R0
    obtain ⟨k, f, rfl, rfl, hk, HU, R0, HE⟩ := hrel
    by_cases hlt : k < l.length
    · obtain ⟨r, hr⟩ := Pl.some_of_lt hlt
      obtain ⟨b, z, rfl, cu, hz⟩ := HM.out k r hr
      have Hz := hide (hz.up HU.out)
      have cu2 := HU.out.cell cu
      have HrL := hide (HL.out r (Pl.mem_of_some hr))
      have HrC := hide (HC.out r (Pl.mem_of_some hr))
      have p0 := R0.out.cell (i := 0) rfl
      have p1 := R0.out.cell (i := 1) rfl
      have p2 := R0.out.cell (i := 2) rfl
      rw [drop_at hr] at HE
      clear hr cu hz
      go_wp2_with fail
      refine (place_any _ r ((x, y), t) _ Hz.out HrL.out HrC.out HP.out).mono ?_
      rintro e w2 ⟨rfl, hz2⟩
      have HU2 := hide (HU.out.trans hz2)
      have R2 := hide (R0.out.up hz2)
      clear hz2 cu2 p0 p1 p2
      by_cases h1 : Vd.place r ((x, y), t) = 1
      · have HR := hide (HE.out.trans (freeL_on h1))
        rw [h1]
        go_wp2
        go_ret
        exact ⟨ret_b HR.out.symm, HU2.out⟩
      · have HR := hide (HE.out.trans (freeL_go h1))
        generalize Vd.place r ((x, y), t) = P at *
        have h1' := beq_eq_false_iff_ne.2 h1
        by_cases hk0 : k = 0
        · have HK := hide hk0
          rw [decide_eq_true hk0] at HR
          have j1 : ((k : Int) == 0) = true := beq_iff_eq.2 (by omega)
          clear hk0
          by_cases h0 : P = 0
          · have HR2 : Hid (Vd.free l ((x, y), t) = Vd.freeL (l.drop (k + 1)) (decide (k + 1 = 0)) true ((x, y), t)) := by
              rw [HR.out, h0]; simp [Hid]
            subst h0
            go_wp2
            go_roundw
            case rel => exact ⟨k + 1, true, by rw [HK.out]; rfl, rfl, by omega, HU2, R2, HR2⟩
            case measure => simp [intOf]; omega
          · have HR2 : Hid (Vd.free l ((x, y), t) = Vd.freeL (l.drop (k + 1)) (decide (k + 1 = 0)) f ((x, y), t)) := by
              rw [HR.out]; simp [Hid, h0]
            have h0' := beq_eq_false_iff_ne.2 h0
            go_wp2
            go_roundw
            case rel => exact ⟨k + 1, f, by rw [HK.out]; rfl, rfl, by omega, HU2, R2, HR2⟩
            case measure => simp [intOf]; omega
        · rw [decide_eq_false hk0] at HR
          have j1 : ((k : Int) == 0) = false := beq_eq_false_iff_ne.2 (by omega)
          have j2 : (0 : Int) < (k : Int) := by omega
          clear hk0
          by_cases h2 : P = 2
          · have HR2 : Hid (Vd.free l ((x, y), t) = Vd.freeL (l.drop (k + 1)) (decide (k + 1 = 0)) true ((x, y), t)) := by
              rw [HR.out, h2]; simp [Hid]
            subst h2
            go_wp2
            go_roundw
            case rel => exact ⟨k + 1, true, by go_num, rfl, by omega, HU2, R2, HR2⟩
            case measure => simp [intOf]; omega
          · have HR2 : Hid (Vd.free l ((x, y), t) = Vd.freeL (l.drop (k + 1)) (decide (k + 1 = 0)) f ((x, y), t)) := by
              rw [HR.out]; simp [Hid, h2]
            have h2' := beq_eq_false_iff_ne.2 h2
            go_wp2
            go_roundw
            case rel => exact ⟨k + 1, f, by go_num, rfl, by omega, HU2, R2, HR2⟩
            case measure => simp [intOf]; omega
    · have hk2 : k = l.length := by omega
      subst hk2
      rw [List.drop_length] at HE
      go_wp2
      go_ret
      exact ⟨ret_b HE.out.symm, HU.out⟩

set_option maxHeartbeats 4000000 in
theorem bounds_any (v u : Value) (a c : Poly) (w : World) (hv : Rd2 w v a) (hu : Rd2 w u c) (hl : a.length ≤ 1048576) (hl2 : ∀ r ∈ a, r.length ≤ 1048576) (hm : c.length ≤ 1048576) (hm2 : ∀ r ∈ c, r.length ≤ 1048576) (hc : Vd.CdL a) (hd : Vd.CdL c) :
    Calls Tryz.prog 66 #[v, u] w fun e w' => e = .returned (.bool (Vd.boundsX a c)) ∧ Up w w' := by
  obtain ⟨ao, cap, rfl, hM⟩ := hv
  obtain ⟨ao2, cap2, rfl, hM2⟩ := hu
  have HM := hide hM
  have HM2 := hide hM2
  have HC := hide hc
  have HL := hide hl2
  have HD := hide hd
  have HL2 := hide hm2
  have HT : Hid (Vd.boundsX a c = a.any fun r => c.any fun o => Vd.cross r o) := rfl
  generalize hf : (fun r => c.any fun o => Vd.cross r o) = f at *
  have HF : Hid (∀ s, f s = c.any fun o => Vd.cross s o) := by subst hf; exact fun _ => rfl
  clear hM hM2 hc hd hl2 hm2 hf
  go_enter Tryz.func66, Tryz.ntmps66
  go_wp2
  go_loopw [11] (fun i wr => ∃ k : Nat, i = .int .i64 k ∧ k ≤ a.length ∧ Hid (Up w wr) ∧ Hid ((a.take k).any f = false)) (fun i _ => a.length - (intOf i).toNat)
  case atStart => exact ⟨0, rfl, Nat.zero_le _, Up.refl _, rfl⟩
  case round =>
    obtain ⟨k, rfl, hk, HU, HA⟩ := hrel
    by_cases hlt : k < a.length
    · obtain ⟨r, hr⟩ := Pl.some_of_lt hlt
      obtain ⟨b, z, rfl, cu, hz⟩ := HM.out k r hr
      obtain ⟨za, zc, rfl, -⟩ := id hz
      have Hz := hide hz
      have cu2 := HU.out.cell cu
      have Hr := hide hr
      have HrL := hide (HL.out r (Pl.mem_of_some hr))
      have HrC := hide (HC.out r (Pl.mem_of_some hr))
      have HX := hide (Pl.any_take_succ f hr)
      clear hr cu hz
      go_wp2
      clear cu2
      go_loopw [17] (fun i wr => ∃ q : Nat, i = .int .i64 q ∧ q ≤ c.length ∧ Hid (Up w wr) ∧ Hid ((c.take q).any (fun o => Vd.cross r o) = false)) (fun i _ => c.length - (intOf i).toNat)
      case atStart => exact ⟨0, rfl, Nat.zero_le _, HU, rfl⟩
      case round =>
        clear HU
        obtain ⟨q, rfl, hq, HU, HB⟩ := hrel
        by_cases hlq : q < c.length
        · obtain ⟨o, ho⟩ := Pl.some_of_lt hlq
          obtain ⟨b', z', rfl, cu, hz⟩ := HM2.out q o ho
          have Hz2 := hide (hz.up HU.out)
          have HzU := hide (Hz.out.up HU.out)
          have cu2 := HU.out.cell cu
          have HoL := hide (HL2.out o (Pl.mem_of_some ho))
          have HoC := hide (HD.out o (Pl.mem_of_some ho))
          have HY := hide (Pl.any_take_succ (fun o => Vd.cross r o) ho)
          have Ho := hide ho
          clear ho cu hz
          cases hx : Vd.cross r o
          · have Hx := hide hx
            clear hx
            go_wp2_with (go_at_call 94; refine (cross_any _ _ r o _ HzU.out Hz2.out HrL.out HoL.out HrC.out HoC.out).mono ?_; rintro e w2 ⟨rfl, hz2⟩; rw [Hx.out]; replace hz2 := hide hz2)
            go_roundw
            case rel => exact ⟨q + 1, by go_num, by omega, HU.out.trans hz2.out, by rw [HY.out, HB.out, Hx.out]; exact rfl⟩
            case measure => simp [intOf]; omega
          · have Hx := hide hx
            have HR : Hid (Vd.boundsX a c = true) := by rw [HT.out]; exact Pl.any_true_of f Hr.out (by rw [HF.out]; exact Pl.any_true_of _ Ho.out hx)
            clear hx
            go_wp2_with (go_at_call 94; refine (cross_any _ _ r o _ HzU.out Hz2.out HrL.out HoL.out HrC.out HoC.out).mono ?_; rintro e w2 ⟨rfl, hz2⟩; rw [Hx.out]; replace hz2 := hide hz2)
            go_ret
            exact ⟨ret_b HR.out.symm, HU.out.trans hz2.out⟩
        · have hq2 : q = c.length := by omega
          subst hq2
          rw [List.take_length] at HB
          go_wp2
          go_roundw
          case rel => exact ⟨k + 1, by go_num, by omega, HU, by rw [HX.out, HA.out, HF.out, HB.out]; exact rfl⟩
          case measure => simp [intOf]; omega
    · have hk2 : k = a.length := by omega
      subst hk2
      rw [List.take_length] at HA
      have HR : Hid (Vd.boundsX a c = false) := by rw [HT.out]; exact HA.out
      go_wp2
      go_ret
      exact ⟨ret_b HR.out.symm, HU.out⟩
end Go.Proofs.YtcclepohmhdpbabGreatDoor
