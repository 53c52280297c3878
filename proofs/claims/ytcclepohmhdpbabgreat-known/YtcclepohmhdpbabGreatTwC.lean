/- THE PROGRAM's TEXTS, READ: points. -/
import Derived.Test.YtcclepohmhdpbabGreatPs
namespace Go.Proofs.YtcclepohmhdpbabGreat
set_option linter.all false
open Go.RowKit Go.Deep

theorem load_pt {W : World} {b : Nat} {v0 v1 : Value} (h : VRow W b 76 [v0, v1]) : (loadVar 76 ⟨b, 0, none⟩).run Tryz.prog W = .ok (.agg #[v0, v1]) W := by
  have c0 := h.cell (i := 0) (v := v0) rfl
  have c1 := h.cell (i := 1) (v := v1) rfl
  simp [go_sem, c0, c1]
theorem ret_pt {a : Act} {W : World} {Q : Ending → World → Prop} {b : Nat} {v0 v1 : Value} (h4 : a.tmps.getD 2 undef = .pointer (some ⟨b, 0, none⟩)) (hd : a.defers = []) (hrow : VRow W b 76 [v0, v1])
    (hQ : Q (.returned (.agg #[v0, v1])) W) : bodyPost Tryz.prog Tryz.f106 Q .ret a W := by
  refine bodyPost_ret (v := .agg #[v0, v1]) ?_ hd hQ
  rw [results_cell Tryz.results106, h4]
  simp only [asAddr, Sem.run_pure, Result.andThen_ok]
  exact load_pt hrow

def PPtPost (l : List UInt8) (bad off : Bool) (rb : Nat) (w : World) (e : Ending) (w' : World) : Prop :=
  ∃ (x y : Int) (l' : List UInt8) (bad' off' : Bool), e = .returned (.agg #[.int .i64 x, .int .i64 y]) ∧ RT w' rb l' bad' off' ∧ Fr (· = rb) w w' ∧ ((if bad = true then none else Wt.point l off) = (if bad' = true then none else some ((x, y), l', off')) ∧ (bad' = false → l'.length + 1 ≤ l.length)) ∧ l'.length ≤ 6000

theorem Wt.coord_bare (l : List UInt8) (o : Bool) : Wt.coord true (Tx.bare l) o = Wt.coord true l o := by unfold Wt.coord; rw [Tx.bare_bare]

set_option maxRecDepth 100000 in
set_option maxHeartbeats 4000000 in
theorem ppoint_any (l : List UInt8) (bad off : Bool) (rb : Nat) (w : World) (hr : RT w rb l bad off) (hl : l.length ≤ 6000) :
    Calls Tryz.prog 106 #[.pointer (some ⟨rb, 0, none⟩)] w (PPtPost l bad off rb w) := by
  have hlb := Tx.bare_le l
  have HRA : Hid (RT (w.alloc (.cells #[.int .i64 0, .int .i64 0] 76)) rb l bad off) := VRow.alloc hr _
  have hrl := hide (VRow.lt hr)
  have HV := hide (VRow.new w [.int .i64 0, .int .i64 0] 76)
  clear hr
  go_enter Tryz.func106, Tryz.ntmps106
  go_wp2_with fail
  refine (blanks_any l bad off rb _ HRA.out hl).mono ?_
  rintro e w1 ⟨n1, rfl, -, h1, u1⟩
  replace h1 := hide h1
  replace u1 := hide u1
  go_wp2_with fail
  refine (pnumber_any (Tx.bare l) (Tx.bare_bare l) bad off rb _ h1.out (by omega)).mono ?_
  rintro e w2 ⟨x, l2, b2, o2, rfl, h2, u2, p2, hl2⟩
  rw [Wt.coord_bare] at p2
  replace h2 := hide h2
  replace u2 := hide u2
  replace p2 := hide p2
  have hl2' : l2.length ≤ 6000 := by omega
  have hlb2 := Tx.bare_le l2
  go_wp2_with fail
  refine (blanks_any l2 b2 o2 rb _ h2.out hl2').mono ?_
  rintro e w3 ⟨n3, rfl, hn3, h3, u3⟩
  obtain ⟨gp, hgp⟩ : ∃ gp, gp = Wt.gap l2 := ⟨_, rfl⟩
  have hgap := (Tx.bare_gap l2)
  rw [← hn3, ← hgp] at hgap
  have HGP := hide hgp
  obtain ⟨-, c1, -, -, f1, -⟩ := h3.facts
  replace h3 := hide h3
  replace u3 := hide u3
  clear hgp hn3
  cases gp
  · have hb0 : ((n3 : Int) == 0) = true := beq_iff_eq.2 (by have := hgap.2 rfl; omega)
    clear hgap
    have h3b : Hid (RT (w3.setCell ⟨rb, 1, none⟩ (.bool true)) rb (Tx.bare l2) (b2 || !Wt.gap l2) o2) := by
      rw [← HGP.out]
      have := h3.out.bad true
      simpa [Hid] using this
    go_wp2_with fail
    refine (pnumber_any (Tx.bare l2) (Tx.bare_bare l2) _ o2 rb _ h3b.out (by omega)).mono ?_
    rintro e w4 ⟨y, l4, b4, o4, rfl, h4, u4, p4, hl4⟩
    rw [Wt.coord_bare] at p4
    have HP := hide (Wt.point_of p2.out p4)
    have HF : Hid (Fr (· = rb) (w.alloc (.cells #[.int .i64 0, .int .i64 0] 76)) w4) := (((u1.out.trans u2.out).trans u3.out).setCell (p := ⟨rb, 1, none⟩) rfl _).trans u4
    have hne : w.heap.size ≠ rb := by have := hrl.out; omega
    have hv4 := HF.out.row HV.out hne
    have v0 := hv4.cell (i := 0) rfl
    have v1 := hv4.cell (i := 1) rfl
    have g0 := hv4.frozen 0
    have g1 := hv4.frozen 1
    have HV4 := hide hv4
    replace h4 := hide h4
    clear u4 p4 hv4
    go_wp2
    refine ret_pt rfl rfl ((HV4.out.set 0 _).set 1 _) ⟨x, y, l4, b4, o4, rfl, VRow.setOther (VRow.setOther h4.out (a := ⟨w.heap.size, 0, none⟩) (fun e => hne e.symm) _) (a := ⟨w.heap.size, 1, none⟩) (fun e => hne e.symm) _, (((Fr.of_up ((Up.refl w).alloc _)).trans HF.out).setNew (p := ⟨w.heap.size, 0, none⟩) (Nat.le_refl _) _).setNew (p := ⟨w.heap.size, 1, none⟩) (Nat.le_refl _) _, HP.out, by omega⟩
  · have hb0 : ((n3 : Int) == 0) = false := beq_eq_false_iff_ne.2 (fun e => by have := hgap.1 (by omega); cases this)
    clear hgap
    have h3b : Hid (RT w3 rb (Tx.bare l2) (b2 || !Wt.gap l2) o2) := by
      rw [← HGP.out]
      have := h3.out
      simpa [Hid] using this
    go_wp2_with fail
    refine (pnumber_any (Tx.bare l2) (Tx.bare_bare l2) _ o2 rb _ h3b.out (by omega)).mono ?_
    rintro e w4 ⟨y, l4, b4, o4, rfl, h4, u4, p4, hl4⟩
    rw [Wt.coord_bare] at p4
    have HP := hide (Wt.point_of p2.out p4)
    have HF : Hid (Fr (· = rb) (w.alloc (.cells #[.int .i64 0, .int .i64 0] 76)) w4) := ((u1.out.trans u2.out).trans u3.out).trans u4
    have hne : w.heap.size ≠ rb := by have := hrl.out; omega
    have hv4 := HF.out.row HV.out hne
    have v0 := hv4.cell (i := 0) rfl
    have v1 := hv4.cell (i := 1) rfl
    have g0 := hv4.frozen 0
    have g1 := hv4.frozen 1
    have HV4 := hide hv4
    replace h4 := hide h4
    clear u4 p4 hv4
    go_wp2
    refine ret_pt rfl rfl ((HV4.out.set 0 _).set 1 _) ⟨x, y, l4, b4, o4, rfl, VRow.setOther (VRow.setOther h4.out (a := ⟨w.heap.size, 0, none⟩) (fun e => hne e.symm) _) (a := ⟨w.heap.size, 1, none⟩) (fun e => hne e.symm) _, (((Fr.of_up ((Up.refl w).alloc _)).trans HF.out).setNew (p := ⟨w.heap.size, 0, none⟩) (Nat.le_refl _) _).setNew (p := ⟨w.heap.size, 1, none⟩) (Nat.le_refl _) _, HP.out, by omega⟩
end Go.Proofs.YtcclepohmhdpbabGreat
