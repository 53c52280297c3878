import Derived.Test.YtcclepohmhdpbabGreatDoorClD
namespace Go.Proofs.YtcclepohmhdpbabGreatDoor
set_option linter.all false
open Go.RowKit Go.Deep
theorem own_rd1 {w : World} {base : Nat} {e : TypeId} {v : Value} {l : Ring} (h : w.ownsRow base e 2 v l.length (flat l)) : Rd1 w v l := by
 obtain ⟨ao, cap, ev⟩ := own_len h
 refine ⟨ao, cap, ev, fun i p hp => ?_⟩
 obtain ⟨g, cap', e', hc⟩ := own_cell h (by have := Pl.lt_of_some hp; omega)
 rw [ev] at e'
 cases e'
 have := flat_at _ _ _ hp
 exact ⟨g, rfl, hc _ _ this.1, hc _ _ this.2⟩
theorem mem_take_succ {a : List Pnt} {k : Nat} {q p : Pnt} (h : a[k]? = some q) (h1 : p ∉ a.take k) (h2 : p ≠ q) : p ∉ a.take (k + 1) := by
 rw [Pl.take_one h, List.mem_append, List.mem_singleton]
 rintro (h | h)
 ·exact h1 h
 ·exact h2 h
set_option maxHeartbeats 4000000 in
theorem isAmong_any (v : Value) (a : Ring) (p : Pnt) (w : World) (hv : Rd1 w v a) (ha : a.length ≤ 1048576) :
  Calls Tryz.prog 131 #[v, ptV p] w fun e w' => e = .returned (.bool (decide (p ∈ a))) ∧ Up w w' := by
 obtain ⟨ao, cap, rfl, hm⟩ := hv
 obtain ⟨px, py⟩ := p
 have HM := hide hm
 clear hm
 simp only [ptV]
 have R0 := hide (new_row (w := w) (o := .cells #[.int .i64 px, .int .i64 py] 48) (vs := [.int .i64 px, .int .i64 py]) rfl)
 have HU0 : Hid (Up w (w.alloc (.cells #[.int .i64 px, .int .i64 py] 48))) := (Up.refl _).alloc _
 go_enter Tryz.func131, Tryz.ntmps131
 go_wp2
 go_loopw [9] (fun i wr => ∃ k : Nat, i = .int .i64 k ∧ k ≤ a.length ∧ Hid (Up w wr) ∧ Hid (VRow wr w.heap.size 48 [.int .i64 px, .int .i64 py]) ∧ Hid ((px, py) ∉ a.take k)) (fun i _ => a.length - (intOf i).toNat)
 case atStart => exact ⟨0, rfl, Nat.zero_le _, HU0, R0, by simp [Hid]⟩
 case round =>
  clear HU0 R0
  obtain ⟨k, rfl, hk, HU, R0, HN⟩ := hrel
  by_cases hlt : k < a.length
  ·obtain ⟨⟨qx, qy⟩, hq⟩ := Pl.some_of_lt hlt
   obtain ⟨b, rfl, c0, c1⟩ := HM.out k _ hq
   have d0 := HU.out.cell c0
   have d1 := HU.out.cell c1
   have p0 := fun o => (R0.out.alloc o).cell (i := 0) rfl
   have p1 := fun o => (R0.out.alloc o).cell (i := 1) rfl
   have Hq := hide hq
   dsimp only at d0 d1
   clear hq c0 c1
   by_cases h1 : px = qx
   ·by_cases h2 : py = qy
    ·subst h1 h2
     have HT : Hid (decide ((px, py) ∈ a) = true) := decide_eq_true (Pl.mem_of_some Hq.out)
     go_wp2
     go_ret
     exact ⟨ret_b HT.out.symm, HU.out.alloc _⟩
    ·have HN2 := hide (mem_take_succ Hq.out HN.out (fun e => h2 (by cases e; rfl)))
     subst h1
     have h2' := beq_eq_false_iff_ne.2 h2
     go_wp2
     go_roundw
     case rel => exact ⟨k + 1, by go_num, by omega, HU.out.alloc _, R0.out.alloc _, HN2⟩
     case measure => simp [intOf]; omega
   ·have HN2 := hide (mem_take_succ Hq.out HN.out (fun e => h1 (by cases e; rfl)))
    have h1' := beq_eq_false_iff_ne.2 h1
    go_wp2
    go_roundw
    case rel => exact ⟨k + 1, by go_num, by omega, HU.out.alloc _, R0.out.alloc _, HN2⟩
    case measure => simp [intOf]; omega
  ·have hk2 : k = a.length := by omega
   subst hk2
   rw [List.take_length] at HN
   have HT : Hid (decide ((px, py) ∈ a) = false) := decide_eq_false HN.out
   go_wp2
   go_ret
   exact ⟨ret_b HT.out.symm, HU.out⟩
def rgN (l : Poly) (p : Pnt) (n : Nat) : List Nat := (List.range n).filter fun i => decide (Vd.place (Vd.rAt l i) (Vd.at1 p) = 1)
theorem rgN_all (l : Poly) (p : Pnt) : rgN l p l.length = Vd.ringsAt l p := rfl
theorem rgN_yes {l : Poly} {p : Pnt} {k : Nat} {r : Ring} (h : l[k]? = some r) (hp : Vd.place r (Vd.at1 p) = 1) : rgN l p (k + 1) = rgN l p k ++ [k] := by
 unfold rgN; rw [List.range_succ, List.filter_append, List.filter_cons, rAt_some h, hp]; rfl
theorem rgN_no {l : Poly} {p : Pnt} {k : Nat} {r : Ring} (h : l[k]? = some r) (hp : Vd.place r (Vd.at1 p) ≠ 1) : rgN l p (k + 1) = rgN l p k := by
 unfold rgN; rw [List.range_succ, List.filter_append, List.filter_cons, rAt_some h, if_neg (by simpa using hp)]; simp
theorem rgN_len (l : Poly) (p : Pnt) (n : Nat) : (rgN l p n).length ≤ n := by unfold rgN; have := List.length_filter_le (fun i => decide (Vd.place (Vd.rAt l i) (Vd.at1 p) = 1)) (List.range n); simpa using this
set_option maxHeartbeats 4000000 in
theorem ringsAt_any (v : Value) (l : Poly) (p : Pnt) (w : World) (hv : Rd2 w v l) (hl : l.length ≤ 1048576) (hl2 : ∀ r ∈ l, r.length ≤ 1048576) (hc : Vd.CdL l) (hp : Vd.Cd p) :
  Calls Tryz.prog 98 #[v, ptV p] w fun e w' => ∃ u, e = .returned u ∧ Up w w' ∧ w'.ownsRow w.heap.size 3 1 u (Vd.ringsAt l p).length (flatG intC (Vd.ringsAt l p)) := by
 obtain ⟨ao, cap, rfl, hm⟩ := hv
 have HM := hide hm
 have HC := hide hc
 have HL := hide hl2
 have HP := hide hp
 have HR := hide (rgN_all l p)
 have HLn := hide (rgN_len l p)
 have HY := hide (fun k r => rgN_yes (l := l) (p := p) (k := k) (r := r))
 have HNo := hide (fun k r => rgN_no (l := l) (p := p) (k := k) (r := r))
 obtain ⟨px, py⟩ := p
 clear hm hc hl2 hp
 simp only [ptV]
 have R0 := hide (new_row (w := w) (o := .cells #[.int .i64 px, .int .i64 py] 48) (vs := [.int .i64 px, .int .i64 py]) rfl)
 have HU0 : Hid (Up w (w.alloc (.cells #[.int .i64 px, .int .i64 py] 48))) := (Up.refl _).alloc _
 go_enter Tryz.func98, Tryz.ntmps98
 go_wp2
 go_loopw [5, 10] (fun av i wr => ∃ (k : Nat) (u : Value), i = .int .i64 k ∧ u = av ∧ k ≤ l.length ∧ Hid (Up w wr) ∧ Hid (VRow wr w.heap.size 48 [.int .i64 px, .int .i64 py]) ∧ Hid (wr.ownsRow w.heap.size 3 1 u (rgN l (px, py) k).length (flatG intC (rgN l (px, py) k)))) (fun _ i _ => l.length - (intOf i).toNat)
 case atStart => exact ⟨0, _, rfl, rfl, Nat.zero_le _, HU0, R0, World.ownsRow_nil _ _ _ _⟩
 case round =>
  clear HU0 R0
  obtain ⟨k, u, rfl, rfl, hk, HU, R0, HO⟩ := hrel
  by_cases hlt : k < l.length
  ·obtain ⟨r, hr⟩ := Pl.some_of_lt hlt
   obtain ⟨b, y, rfl, cu, hy⟩ := HM.out k r hr
   have Hy := hide (hy.up HU.out)
   have cu2 := HU.out.cell cu
   have Hr := hide hr
   have HrL := hide (HL.out r (Pl.mem_of_some hr))
   have HrC := hide (HC.out r (Pl.mem_of_some hr))
   have p0 := R0.out.cell (i := 0) rfl
   have p1 := R0.out.cell (i := 1) rfl
   clear hr cu hy
   go_wp2_with fail
   refine (at_any (px, py) _).mono ?_
   rintro e w2 ⟨rfl, hz2⟩
   replace hz2 := hide hz2
   go_wp2_with fail
   refine (place_any _ r (Vd.at1 (px, py)) _ (Hy.out.up hz2.out) HrL.out HrC.out (Vd.at1_sp HP.out)).mono ?_
   rintro e w3 ⟨rfl, hz3⟩
   have HZ := hide (hz2.out.trans hz3)
   have HU3 := hide (HU.out.trans HZ.out)
   have R3 := hide (R0.out.up HZ.out)
   have HO3 := hide (own_up HO.out HZ.out)
   clear hz2 hz3 cu2 p0 p1
   by_cases hx : Vd.place r (Vd.at1 (px, py)) = 1
   ·have HE := hide (HY.out k r Hr.out hx)
    rw [hx]
    clear hx
    have HOA := hide (HO3.out.alloc (.cells #[.int .i64 (k : Int)] 3))
    have hb : Hid ((rgN l (px, py) k).length ≤ 1073741824) := by have := HLn.out k; show _ ≤ _; omega
    have hsz := hide HU3.out.size
    go_wp2_with (at_builtin; refine wpList_app el_ints rfl (.tmp 20) (.tmp 22) rfl w.heap.size _ _ _ (by rfl) HOA.out w3.heap.size [.int .i64 (k : Int)] (by rfl) rfl (heap_alloc_new w3 _) (by intro x hx; simp at hx; subst hx; rfl) hb.out (by simp; have := hsz.out; omega) ?_; intro g cap w5 hown5 hg5 hat5 hlt5; replace hown5 := hide hown5; replace hg5 := hide hg5; clear hat5 hlt5)
    go_roundw
    case rel =>
     refine ⟨k + 1, _, by go_num, rfl, by omega, ?_, ?_, ?_⟩
     ·exact Fr.up (S := fun _ => False) (((Fr.of_up HU3.out).alloc _).grown hg5.out fun x hx => .inr (own_lt HOA.out hx).1) (fun _ _ h => h)
     ·exact (R3.out.alloc _).grown hg5.out (own_row_ne HOA.out (R3.out.alloc _) (by decide))
     ·rw [HE.out, flatG_append, List.length_append]; exact hown5.out
    case measure => simp [intOf]; omega
   ·have HE := hide (HNo.out k r Hr.out hx)
    have hx' := beq_eq_false_iff_ne.2 hx
    clear hx
    generalize Vd.place r (Vd.at1 (px, py)) = P at *
    go_wp2
    go_roundw
    case rel => exact ⟨k + 1, _, by go_num, rfl, by omega, HU3, R3, by rw [HE.out]; exact HO3⟩
    case measure => simp [intOf]; omega
  ·have hk2 : k = l.length := by omega
   subst hk2
   go_wp2
   go_ret
   exact ⟨_, rfl, HU.out, by rw [← HR.out]; exact HO.out⟩
end Go.Proofs.YtcclepohmhdpbabGreatDoor
