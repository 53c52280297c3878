/- THE WALKS: (*World).point. -/
import Derived.Test.YtcclepohmhdpbaaGreatDoorLists
import Derived.Deep.DeepCutAuto
namespace Go.Proofs.YtcclepohmhdpbaaGreatDoor
set_option linter.all false
open Go.RowKit Go.Deep
attribute [local go_sem ↓] Go.wp_at_zero Go.wp_at_succ

theorem Inv.up {w0 : World} {w w' : World} {Wb : Nat} {psv outv : Value} {mk : Int} {S : List SG} {O : List OG} {L : L3} {n : Nat} (h : Inv w0 w Wb psv outv mk S O L n) (k : Up w w') : Inv w0 w' Wb psv outv mk S O L n :=
  ⟨VRow.of_block h.wrow (k.block _ (VRow.lt h.wrow)), own_up h.ops k, own_up h.oout k, h.lok.of fun b hb => k.block b (h.lok.lt b hb), h.nodup, fun s hs => (h.sets s hs).keep (Fr.of_up (S := fun _ => False) k) fun b _ hF => ⟨hF, fun e => e⟩, fun o ho => (h.outs o ho).keep (Fr.of_up (S := fun _ => False) k) fun b _ hF => ⟨hF, fun e => e⟩, h.bS, h.bO, h.mk0, h.mk1, h.tot_, h.base.trans k, h.low⟩
theorem Inv.more {w0 : World} {w : World} {Wb : Nat} {psv outv : Value} {mk : Int} {S : List SG} {O : List OG} {L : L3} {n : Nat} (h : Inv w0 w Wb psv outv mk S O L n) : Inv w0 w Wb psv outv mk S O L (n + 1) :=
  ⟨h.wrow, h.ops, h.oout, h.lok, h.nodup, h.sets, h.outs, by have := h.bS; omega, by have := h.bO; omega, h.mk0, by have := h.mk1; omega, by have := h.tot_; omega, h.base, h.low⟩

theorem el_pts : Elem Tryz.prog 30 32 (.agg #[.int .i64 0, .int .i64 0]) 2 16 := ⟨und_pts, info_pt, rfl, by omega, by omega⟩

theorem snoc_of {α : Type} {l : List α} (h : l ≠ []) : ∃ A x, l = A ++ [x] := ⟨l.dropLast, l.getLast h, (List.dropLast_concat_getLast h).symm⟩

set_option maxRecDepth 100000 in
set_option maxHeartbeats 4000000 in
theorem point_none {w0 : World} (w : World) (Wb : Nat) (psv outv : Value) (mk : Int) (S : List SG) (O : List OG) (L : L3) (n : Nat) (h : Inv w0 w Wb psv outv mk S O L n) (kd a b c : Int) (s : ByteArray) (h0 : L.ps = []) :
    Calls Tryz.prog 107 #[.pointer (some ⟨Wb, 0, none⟩), .agg #[.int .i64 kd, .int .i64 a, .int .i64 b, .int .i64 c, .string s]] w fun e w' => e = .returned (.tuple #[]) ∧ Up w w' := by
  obtain ⟨ao, cap, hv⟩ := own_len h.lok.row
  rw [h0, List.length_nil] at hv
  have c1 := h.wrow.c1
  rw [hv] at c1
  have c1a := fun o => ((Up.refl w).alloc o).cell c1
  clear h hv h0
  go_enter Tryz.func107, Tryz.ntmps107
  go_wp2
  exact bodyPost_ret (v := .tuple #[]) (by simp [results, Tryz.results107, go_sem]) rfl ⟨rfl, (Up.refl w).alloc _⟩

set_option maxRecDepth 100000 in
set_option maxHeartbeats 4000000 in
theorem point_noring {w0 : World} (w : World) (Wb : Nat) (psv outv : Value) (mk : Int) (S : List SG) (O : List OG) (v : Value) (A : List L2) (x : L2) (n : Nat) (h : Inv w0 w Wb psv outv mk S O ⟨v, A ++ [x]⟩ n) (hn : n ≤ 1048576) (kd a b c : Int) (s : ByteArray) (h0 : x.rs = []) :
    Calls Tryz.prog 107 #[.pointer (some ⟨Wb, 0, none⟩), .agg #[.int .i64 kd, .int .i64 a, .int .i64 b, .int .i64 c, .string s]] w fun e w' => e = .returned (.tuple #[]) ∧ Up w w' := by
  obtain ⟨G, cap, hv, hc⟩ := own_cell h.lok.row (by simp)
  have hAl : A.length ≤ 1048576 := by
    have := h.tot_
    simp [tot, L3.m] at this
    omega
  have e1 := hc A.length x.v (by simp)
  obtain ⟨ao, cap2, hx⟩ := own_len (h.lok.sub x (by simp)).row
  rw [h0, List.length_nil] at hx
  rw [hx] at e1
  have c1 := h.wrow.c1
  dsimp only at hv c1
  rw [hv] at c1
  simp only [List.length_append, List.length_cons, List.length_nil, Nat.zero_add] at c1
  have c1a := fun o => ((Up.refl w).alloc o).cell c1
  have e1a := fun o => ((Up.refl w).alloc o).cell e1
  clear h hv hc h0 hx
  go_enter Tryz.func107, Tryz.ntmps107
  go_wp2
  exact bodyPost_ret (v := .tuple #[]) (by simp [results, Tryz.results107, go_sem]) rfl ⟨rfl, (Up.refl w).alloc _⟩

set_option maxRecDepth 100000 in
set_option maxHeartbeats 4000000 in
theorem point_ring {w0 : World} (w : World) (Wb : Nat) (psv outv : Value) (mk : Int) (S : List SG) (O : List OG) (v xv : Value) (A : List L2) (B : List L1) (y : L1) (n : Nat) (h : Inv w0 w Wb psv outv mk S O ⟨v, A ++ [⟨xv, B ++ [y]⟩]⟩ n) (hn : n ≤ 1048576) (kd a b c : Int) (s : ByteArray) :
    Calls Tryz.prog 107 #[.pointer (some ⟨Wb, 0, none⟩), .agg #[.int .i64 kd, .int .i64 a, .int .i64 b, .int .i64 c, .string s]] w fun e w' => e = .returned (.tuple #[]) ∧ ∃ L', Inv w0 w' Wb psv outv mk S O L' (n + 1) := by
  have h' := hide h
  obtain ⟨G0, cap0, hv0, hc0⟩ := own_cell h.lok.row (by simp)
  have hx := h.lok.sub ⟨xv, B ++ [y]⟩ (by simp)
  obtain ⟨G1, cap1, hv1, hc1⟩ := own_cell hx.row (by simp)
  have hy := hx.sub y (by simp)
  obtain ⟨ao, cap2, hv2⟩ := own_len hy
  have hAl : A.length ≤ 1048576 := by
    have := h.tot_
    simp [tot, L3.m] at this
    omega
  have hBl : B.length ≤ 1048576 := by
    have := h.tot_
    simp [tot, L3.m, L2.pts, Pl.nR] at this
    omega
  have hyl : y.r.length ≤ 1048576 := by
    have := h.tot_
    simp [tot, L3.m, L2.pts, Pl.nP, Pl.nPl] at this
    omega
  have e0 := hc0 A.length xv (by simp)
  have e1 := hc1 B.length y.v (by simp)
  have c1 := h.wrow.c1
  have hrd := hide hy.rd
  dsimp only at hv0 hv1 c1
  rw [hv0] at c1
  rw [hv1] at e0
  rw [hv2] at e1
  simp only [List.length_append, List.length_cons, List.length_nil, Nat.zero_add] at c1 e0
  have hup1 := fun o => ((Up.refl w).alloc o)
  have c1a := fun o => (hup1 o).cell c1
  have e0a := fun o => (hup1 o).cell e0
  have e1a := fun o => (hup1 o).cell e1
  have c1b := fun o o' => ((hup1 o).alloc o').cell c1
  have e0b := fun o o' => ((hup1 o).alloc o').cell e0
  have e1b := fun o o' => ((hup1 o).alloc o').cell e1
  have hv2' := hide hv2
  have hv0' := hide hv0
  have hv1' := hide hv1
  clear h hc0 hc1 hx hy hv2 hv0 hv1 hup1
  go_enter Tryz.func107, Tryz.ntmps107
  obtain ⟨Bt, hBt⟩ : ∃ Bt : Bool, Bt = (bits .and .i64 c 1 == 1 && decide (0 < y.r.length)) := ⟨_, rfl⟩
  have hBt' := hide hBt
  clear hBt
  go_upto_region 6 with fail
  obtain ⟨W1, hW1⟩ : ∃ W1, W1 = (w.alloc (.cells #[.int .i64 kd, .int .i64 a, .int .i64 b, .int .i64 c, .string s] 46)).alloc (.cells #[.int .i64 a, .int .i64 b] 32) := ⟨_, rfl⟩
  rw [← hW1]
  have hu1 : Hid (Up w W1) := by rw [hW1]; exact ((Up.refl w).alloc _).alloc _
  have o3 : W1.cell? ⟨w.heap.size, 3, none⟩ = some (.int .i64 c) := by
    rw [hW1]
    exact ((VRow.new w [.int .i64 kd, .int .i64 a, .int .i64 b, .int .i64 c, .string s] 46).alloc _).cell rfl
  have hp1 : PRow W1 (w.heap.size + 1) [(a, b)] := by
    rw [hW1]
    have := VRow.new (w.alloc (.cells #[.int .i64 kd, .int .i64 a, .int .i64 b, .int .i64 c, .string s] 46)) (flat [(a, b)]) 32
    rw [show (w.alloc (.cells #[.int .i64 kd, .int .i64 a, .int .i64 b, .int .i64 c, .string s] 46)).heap.size = w.heap.size + 1 from by simp] at this
    exact this
  clear hW1
  have hp1' := hide hp1
  have f1 := hu1.out.cell c1
  have f2 := hu1.out.cell e0
  have f3 := hu1.out.cell e1
  have C1 := hide c1
  have E0 := hide e0
  have E1 := hide e1
  clear c1a e0a e1a c1b e0b e1b c1 e0 e1 hp1
  go_cut [53] (fun s wc => s = .bool Bt ∧ wc = W1)
  case first =>
    by_cases hb1 : bits .and .i64 c 1 = 1
    · by_cases hl : 0 < y.r.length
      · have : Hid (Bt = true) := by rw [hBt'.out]; simp [Hid, hb1, hl]
        go_wp2
        go_meet
        case rel => exact ⟨by rw [this.out], rfl⟩
      · have : Hid (Bt = false) := by rw [hBt'.out]; simp [Hid, hl]
        go_wp2
        go_meet
        case rel => exact ⟨by rw [this.out], rfl⟩
    · have : Hid (Bt = false) := by rw [hBt'.out]; simp [Hid, hb1]
      have hb2 : (bits .and .i64 c 1 == 1) = false := beq_eq_false_iff_ne.2 hb1
      go_wp2
      go_meet
      case rel => exact ⟨by rw [this.out], rfl⟩
  case rest =>
    obtain ⟨rfl, rfl⟩ := hcut
    go_upto_if 53 with fail
    go_cut [] (fun wc => ∃ p : Pnt, Hid (Up w wc ∧ PRow wc (w.heap.size + 1) [p]))
    case first =>
      cases Bt
      · go_wp2
        go_meet
        case rel => exact ⟨(a, b), hu1.out, hp1'.out⟩
      · have hl : 0 < y.r.length := by
          have := hBt'.out
          simp at this
          exact this.2
        obtain ⟨⟨px, py⟩, hp⟩ := Pl.some_of_lt hl
        obtain ⟨ao', cap', ev, hr⟩ := hrd.out
        obtain ⟨g2, eg, q1, q2⟩ := hr 0 _ hp
        have e2 := hv2'.out
        rw [ev] at e2
        cases e2
        subst eg
        have r1 := hu1.out.cell q1
        have r2 := hu1.out.cell q2
        simp only [Nat.zero_mul, Nat.zero_add] at r1 r2
        have t1 := hp1'.out.cells (i := 0) rfl
        obtain ⟨t1, t2⟩ := t1
        simp only [Nat.zero_mul, Nat.zero_add] at t1 t2
        have t3 := fun i => VRow.frozen hp1'.out i
        clear hp ev hr q1 q2
        go_wp2
        go_meet
        case rel =>
          have hs := PRow.set hp1'.out 0 (px, py)
          exact ⟨(px, py), (hu1.out.setCell (Nat.le_succ _) _).setCell (Nat.le_succ _) _, hs⟩
    case rest =>
      obtain ⟨⟨px, py⟩, hcut⟩ := hcut
      obtain ⟨hu2, hp2⟩ := hcut.out
      have hu2' := hide hu2
      have t1 := hp2.cells (i := 0) rfl
      obtain ⟨t1, t2⟩ := t1
      simp only [Nat.zero_mul, Nat.zero_add] at t1 t2
      have g1 := hu2.cell C1.out
      have g2 := hu2.cell E0.out
      have g3 := hu2.cell E1.out
      have g1a := fun o => ((Up.refl wc).alloc o).cell g1
      have g2a := fun o => ((Up.refl wc).alloc o).cell g2
      have g3a := fun o => ((Up.refl wc).alloc o).cell g3
      have hi2 := hide (h'.out.up hu2)
      have hyo : Hid (wc.ownsRow 0 32 2 (.slice ao y.r.length cap2) y.r.length (flat y.r)) := by
        have := (hi2.out.lok.sub ⟨xv, B ++ [y]⟩ (by simp)).sub y (by simp)
        rw [L1.ok, hv2'.out] at this
        exact this
      have hyoa := hide (fun o => hyo.out.alloc o)
      have hylb : Hid (y.r.length ≤ 1073741824) := by show _ ≤ _; omega
      have hi0 : (A.length : Int) < (A.length : Int) + 1 := by omega
      have hi1 : (B.length : Int) < (B.length : Int) + 1 := by omega
      clear hu2 hp2 hcut f1 f2 f3 o3
      go_upto_region 8 with fail
      go_cut [7] (fun s wd => ∃ (g cap : Nat), s = .slice (some ⟨g, 0, none⟩) (y.r.length + 1) cap ∧ Hid (∃ w0, Up wc w0 ∧ w0.grownBy wd y.v.ownBlock ∧ wd.ownsRow 0 32 2 (.slice (some ⟨g, 0, none⟩) (y.r.length + 1) cap) (y.r.length + 1) (flat y.r ++ [.int .i64 px, .int .i64 py]) ∧ (y.v.ownBlock = some g ∨ g = w0.heap.size)))
      case first =>
        go_region_law ((refine step_app el_pts rfl (.tmp 75) (.tmp 77) rfl 0 (.slice ao y.r.length cap2) _ _ (by rfl) (hyoa.out _) wc.heap.size [.int .i64 px, .int .i64 py] (by rfl) rfl (heap_alloc_new wc _) (by intro u hu; simp at hu; rcases hu with rfl | rfl <;> rfl) hylb.out (by omega) ?_; intro g cap w1 hown1 hg1 hat1 hlt1))
        all_goals
          have hown1' := hide hown1
          have hg1' := hide hg1
          have hat1' := hide hat1
          clear hown1 hg1 hat1 hlt1
          go_wp2
          go_meet
          case rel => exact ⟨g, cap, rfl, _, (Up.refl wc).alloc _, by rw [hv2'.out]; exact ⟨hg1'.out.os, hg1'.out.tape, hg1'.out.output, hg1'.out.size, hg1'.out.block⟩, hown1'.out, by rw [hv2'.out]; exact hat1'.out⟩
      case rest =>
        obtain ⟨g, cap, rfl, hcut⟩ := hcut
        obtain ⟨w0, hu0, hg, hown, hat⟩ := hcut.out
        have hI := hi2.out.up hu0
        have hx0 := hI.lok.sub ⟨xv, B ++ [y]⟩ (by simp)
        have hy0 : w0.ownsRow 0 32 2 y.v y.r.length (flat y.r) := hx0.sub y (by simp)
        have hr0 := hI.lok.row.kept hg (own_apart hI.lok.row hy0 (by decide))
        have hr1 := hx0.row.kept hg (own_apart hx0.row hy0 (by decide))
        have hWd : WR wc Wb psv v outv mk := VRow.grown hI.wrow hg (own_row_ne hy0 hI.wrow (by decide))
        have hG1 : xv.ownBlock = some G1 := by rw [hv1'.out]; rfl
        have hfz := own_frozen hr1 hG1 B.length
        obtain ⟨G0', cap0', ev0, hc0⟩ := own_cell hr0 (by simp)
        obtain ⟨G1', cap1', ev1, hc1⟩ := own_cell hr1 (by simp)
        have k1 := hWd.c1
        have k2 := hc0 A.length xv (by simp)
        have k3 := hc1 B.length y.v (by simp)
        dsimp only at ev0 ev1
        rw [hv0'.out] at ev0 k1
        rw [hv1'.out] at ev1 k2
        rw [hv2'.out] at k3
        cases ev0
        cases ev1
        simp only [List.length_append, List.length_cons, List.length_nil, Nat.zero_add] at k1 k2
        have hpt := hide (L3.point hI.lok hI.nodup hG1 (p := (px, py)) hg hown hat)
        have hI' := hide hI
        have hg' := hide hg
        have hWd' := hide hWd
        have hyb : Hid (∀ b, y.v.ownBlock = some b → b ∈ L3.bl ⟨v, A ++ [⟨xv, B ++ [y]⟩]⟩) := fun b e => by simp [L3.bl, L2.bl, L1.bl, e]
        have hGb : Hid (G1 ∈ L3.bl ⟨v, A ++ [⟨xv, B ++ [y]⟩]⟩) := by simp [Hid, L3.bl, L2.bl, hG1]
        clear hI hx0 hy0 hr0 hr1 hWd hc0 hc1 hg hown hat hu0 hcut hG1 g1 g2 g3 g1a g2a g3a t1 t2
        go_wp2
        go_end0
        obtain ⟨p1, p2, p3⟩ := hpt.out
        refine ⟨rfl, _, hI'.out.lists ?_ ?_ p1 p2 p3 ?_⟩
        · exact (((Fr.of_grown hg'.out).mono fun b _ e => .inr (hyb.out b e))).setCell (.inr hGb.out) _
        · refine VRow.setOther hWd'.out (a := ⟨G1, B.length, none⟩) (fun e => ?_) _
          exact hI'.out.lok.not_row hI'.out.wrow (by decide) (by decide) (by decide) (show Wb ∈ _ from e ▸ hGb.out)
        · rw [tot_point]
          have := hI'.out.tot_
          omega

end Go.Proofs.YtcclepohmhdpbaaGreatDoor
