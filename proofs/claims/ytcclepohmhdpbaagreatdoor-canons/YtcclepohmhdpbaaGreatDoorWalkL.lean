/- THE WALKS: (*World).told. -/
import Derived.Test.YtcclepohmhdpbaaGreatDoorInv
import Derived.Deep.DeepCutAuto
namespace Go.Proofs.YtcclepohmhdpbaaGreatDoor
set_option linter.all false
open Go.RowKit Go.Deep
attribute [local go_sem ↓] Go.wp_at_zero Go.wp_at_succ

theorem many_bd {m : Mult} (h : Pl.many m = false) : m.length ≤ 8 ∧ Pl.nR m ≤ 12 := by
  unfold Pl.many at h
  simp at h
  omega

theorem Set3.fr {S : Nat → Prop} {w w' : World} {v : Value} {m : Mult} {b : Nat} {d : D3} (h : Set3 w v m b d) (k : Fr S w w') (hs : ∀ x ∈ b :: d.bl, ¬ S x) : Set3 w' v m b d :=
  ⟨h.ptr, k.row h.cell (hs b (by simp)), k.ok3 h.ok (fun x hx => hs x (by simp [hx])), h.pts⟩

set_option maxRecDepth 100000 in
set_option maxHeartbeats 4000000 in
theorem told_gen (F : Nat → Prop) (w : World) (Wb : Nat) (psv lv outv : Value) (mk : Int) (O : List OG) (x : Value) (m : Mult) (bx : Nat) (dx : D3) (ao : Option Addr) (ln cp : Nat) (hW : WR w Wb psv lv outv mk) (hown : w.ownsRow 0 98 6 outv O.length (cellsO O)) (hO : ∀ o ∈ O, HSo F w o)
    (hF : ∀ b, F b → b ≠ Wb ∧ outv.ownBlock ≠ some b) (hs : Set3 w x m bx dx) (hsx : ∀ b ∈ bx :: dx.bl, b ≠ Wb ∧ outv.ownBlock ≠ some b) (hmv : RF3 (fun b => b ≠ Wb ∧ outv.ownBlock ≠ some b) w (.slice ao ln cp) m)
    (hb : Pl.Bd m) (hmany : Pl.many m = false) (hOb : O.length ≤ 536870912) (hk0 : 0 ≤ mk) (hk1 : mk ≤ 562949953421312) :
    Calls Tryz.prog 50 #[.pointer (some ⟨Wb, 0, none⟩), x, .slice ao ln cp] w fun e w' => e = .returned (.bool true) ∧ ∃ outv' O' mk', TS w w' Wb psv lv outv mk F O.length 3 outv' O' mk' := by
  have hst : Hid (TS w w Wb psv lv outv mk F O.length 0 outv O mk) := ⟨Fr.refl _ _, hW, hown, .inl rfl, fun o ho => (hO o ho).keep (Fr.refl (fun _ => False) _) fun b _ hb => ⟨⟨.inl hb, hF b hb⟩, fun h => h⟩, rfl, by omega, by omega⟩
  have hWw := hide (VRow.lt hW)
  have hs' := hide hs
  have hsx' := hide hsx
  have hmv' := hide hmv
  have hb' := hide hb
  have hmd := hide (many_bd hmany)
  clear hW hown hO hF hs hsx hmv hb hmany
  go_enter Tryz.func50, Tryz.ntmps50
  go_wp2
  go_loopw [7] (fun i wr => ∃ (k : Nat) (outv' : Value) (O' : List OG) (mk' : Int), k ≤ 3 ∧ i = .int .i64 k ∧ TS w wr Wb psv lv outv mk F O.length k outv' O' mk') (fun i _ => 3 - (intOf i).toNat)
  case atStart => exact ⟨0, _, _, _, Nat.zero_le _, rfl, hst.out⟩
  case round =>
    obtain ⟨k, ov, O1, mk1, hk, rfl, hts⟩ := hrel
    have hts' := hide hts
    have hk3 := hts.mk1
    have hk4 := hts.mk2
    have hk5 : 0 ≤ mk1 := by omega
    have hk6 : mk1 ≤ 1125899906842624 := by omega
    have hlen := hide hts.len
    by_cases hlt : k < 3
    · have hS : Hid (Set3 wr x m bx dx) := hs'.out.fr hts.fr (fun b hb e => by
        rcases e with e | e
        · exact (hsx'.out b hb).1 e
        · exact (hsx'.out b hb).2 e)
      have hM : Hid (RF3 (fun b => b ≠ Wb ∧ outv.ownBlock ≠ some b) wr (.slice ao ln cp) m) := hmv'.out.keep hts.fr fun b _ hb => ⟨hb, fun e => e.elim hb.1 hb.2⟩
      have hWr := hide hts.wrow
      have hOw := hide hts.own
      have hHs := hide hts.hs
      clear hts
      go_wp2_with (go_at_call 41; refine (points_any x m _ bx dx hS.out hb'.out).mono ?_; rintro e w1 ⟨d, rfl, hdo, hdm, hdb, hdn, hdl, hu1⟩; replace hdo := hide hdo; replace hdm := hide hdm; replace hdb := hide hdb; replace hdn := hide hdn; replace hdl := hide hdl; replace hu1 := hide hu1)
      refine (like_any d (.slice ao ln cp) m w1 hdo.out hdb.out hdm.out ?_ hb'.out).mono ?_
      · exact (hM.out.rd).up hu1.out
      rintro e w2 ⟨rfl, hd2⟩
      replace hd2 := hide hd2
      have hu2 : Hid (Up wr w2) := hu1.out.trans hd2.out.up
      go_wp2_with fail
      refine (wstands_any _ w2 Wb psv lv ov mk1 O1 (VRow.of_block hWr.out (hu2.out.block _ (VRow.lt hWr.out))) (own_up hOw.out hu2.out) (fun o ho => (hHs.out o ho).keep (F' := fun b => (F b ∨ w.heap.size ≤ b) ∧ b ≠ Wb ∧ ov.ownBlock ≠ some b) (Fr.of_up (S := fun _ => False) hu2.out) fun b _ hb => ⟨hb, fun h => h⟩) (by have := hlen.out; omega)).mono ?_
      rintro e w3 ⟨rfl, hd3⟩
      replace hd3 := hide hd3
      have hu3 : Hid (Up w1 w3) := hd2.out.up.trans hd3.out.up
      have hW3 : Hid (WR w3 Wb psv lv ov mk1) := VRow.of_block hWr.out ((hu1.out.trans hu3.out).block _ (VRow.lt hWr.out))
      have hd33 : Hid (OK3 w3 d) := hdo.out.up hu3.out
      have hbd : Hid (Pl.Bd d.m) := by rw [hdm.out]; exact hb'.out
      have hnr : Hid (Pl.nR d.m ≤ 12) := by rw [hdm.out]; exact hmd.out.2
      have hnp : Hid (d.m.length ≤ 8) := by rw [hdm.out]; exact hmd.out.1
      go_wp2_with fail
      refine (noted_any d w3 Wb psv lv ov mk1 hd33.out hW3.out hbd.out (by have := hnr.out; omega) hk5 hk6).mono ?_
      rintro e w4 ⟨pv, rv, rmv, pmv, rfl, hn⟩
      replace hn := hide hn
      obtain ⟨a1, n1, c1, rfl⟩ := own_shape hn.out.opv
      obtain ⟨a2, n2, c2, rfl⟩ := own_shape hn.out.orv
      obtain ⟨a3, n3, c3, rfl⟩ := own_shape hn.out.orm
      obtain ⟨a4, n4, c4, rfl⟩ := own_shape hn.out.opm
      have hW4 : Hid (WR w4 Wb psv lv ov mk1) := VRow.of_block hW3.out (hn.out.up.block _ (VRow.lt hW3.out))
      have hO4 : Hid (w4.ownsRow 0 98 6 ov O1.length (cellsO O1)) := own_up hOw.out ((hu1.out.trans hu3.out).trans hn.out.up)
      generalize hsm : mk1 + (off d.ps : Int) = sm at *
      have hsm' := hide hsm
      clear hsm
      have hdv : d.v = .slice (some ⟨d.b, 0, none⟩) d.ps.length (d.ps.length + d.s.length) := rfl
      rw [hdv]
      clear hdv
      go_upto_region 10 with fail
      obtain ⟨wA, hwA⟩ : ∃ wA, wA = w4.alloc (.cells #[.slice (some ⟨d.b, 0, none⟩) d.ps.length (d.ps.length + d.s.length), .slice a1 n1 c1, .slice a2 n2 c2, .slice a3 n3 c3, .slice a4 n4 c4, .int .i64 sm] 98) := ⟨_, rfl⟩
      rw [← hwA]
      have hAu : Hid (Up w4 wA) := by rw [hwA]; exact (Up.refl _).alloc _
      have hAr : VRow wA w4.heap.size 98 [.slice (some ⟨d.b, 0, none⟩) d.ps.length (d.ps.length + d.s.length), .slice a1 n1 c1, .slice a2 n2 c2, .slice a3 n3 c3, .slice a4 n4 c4, .int .i64 sm] := by rw [hwA]; exact VRow.new w4 _ _
      clear hwA
      have k0 := hAr.cell (i := 0) rfl
      have k1 := hAr.cell (i := 1) rfl
      have k2 := hAr.cell (i := 2) rfl
      have k3 := hAr.cell (i := 3) rfl
      have k4 := hAr.cell (i := 4) rfl
      have k5 := hAr.cell (i := 5) rfl
      clear hAr
      have hWA : Hid (WR wA Wb psv lv ov mk1) := VRow.of_block hW4.out (hAu.out.block _ (VRow.lt hW4.out))
      have hOA : Hid (wA.ownsRow 0 98 6 ov O1.length (cellsO O1)) := own_up hO4.out hAu.out
      have q2 := hWA.out.c2
      have q2a := fun o => ((Up.refl wA).alloc o).cell q2
      have hOAa := hide (fun o => hOA.out.alloc o)
      have hO1b : Hid (O1.length ≤ 1073741824) := by have := hlen.out; show _ ≤ _; omega
      go_cut [12] (fun s wc => ∃ (g cap : Nat), s = .slice (some ⟨g, 0, none⟩) (O1.length + 1) cap ∧ Hid (∃ w5, Up wA w5 ∧ w5.grownBy wc ov.ownBlock ∧ wc.ownsRow 0 98 6 (.slice (some ⟨g, 0, none⟩) (O1.length + 1) cap) (O1.length + 1) (cellsO O1 ++ [.slice (some ⟨d.b, 0, none⟩) d.ps.length (d.ps.length + d.s.length), .slice a1 n1 c1, .slice a2 n2 c2, .slice a3 n3 c3, .slice a4 n4 c4, .int .i64 sm]) ∧ (ov.ownBlock = some g ∨ g = w5.heap.size) ∧ g < wc.heap.size))
      case first =>
        go_region_law ((refine step_app el_handed rfl (.tmp 36) (.tmp 38) rfl 0 ov _ _ (by rfl) (hOAa.out _) wA.heap.size [.slice (some ⟨d.b, 0, none⟩) d.ps.length (d.ps.length + d.s.length), .slice a1 n1 c1, .slice a2 n2 c2, .slice a3 n3 c3, .slice a4 n4 c4, .int .i64 sm] (by rfl) rfl (heap_alloc_new wA _) (by intro u hu; simp at hu; rcases hu with rfl | rfl | rfl | rfl | rfl | rfl <;> rfl) hO1b.out (by omega) ?_; intro g cap w1 hown1 hg1 hat1 hlt1))
        all_goals
          have hown1' := hide hown1
          have hg1' := hide hg1
          have hat1' := hide hat1
          have hlt1' := hide hlt1
          clear hown1 hg1 hat1 hlt1
          go_wp2
          go_meet
          case rel => exact ⟨g, cap, rfl, _, (Up.refl wA).alloc _, ⟨hg1'.out.os, hg1'.out.tape, hg1'.out.output, hg1'.out.size, hg1'.out.block⟩, hown1'.out, hat1'.out, hlt1'.out⟩
      case rest =>
        obtain ⟨g, cap, rfl, hcut⟩ := hcut
        obtain ⟨w5, hu5, hg, hown, hat, hgl⟩ := hcut.out
        have hW6 : WR wc Wb psv lv ov mk1 := VRow.grown (VRow.of_block hWA.out (hu5.block _ (VRow.lt hWA.out))) hg (own_row_ne hOA.out hWA.out (by decide))
        have q6 := hW6.c2
        have qf := VRow.frozen hW6 2
        have hW7 : Hid (WR (wc.setCell ⟨Wb, 2, none⟩ (.slice (some ⟨g, 0, none⟩) (O1.length + 1) cap)) Wb psv lv (.slice (some ⟨g, 0, none⟩) (O1.length + 1) cap) mk1) := VRow.set hW6 2 _
        have hu5' := hide hu5
        have hg' := hide hg
        have hown' := hide hown
        have hat' := hide hat
        have hgl' := hide hgl
        clear hu5 hg hown hat hgl hcut hW6 k0 k1 k2 k3 k4 k5 q2 q2a
        have hWd : Wb ∉ d.bl := fun e => by
          have h1 := hdl.out Wb e
          have h2 := hts'.out.fr.size
          have h3 := hWw.out
          omega
        have hd7 : OK3 (wc.setCell ⟨Wb, 2, none⟩ (.slice (some ⟨g, 0, none⟩) (O1.length + 1) cap)) d := by
          have h5 := ((hd33.out.up hn.out.up).up hAu.out).up hu5'.out
          have h6 := (Fr.of_grown hg'.out).ok3 h5 (fun b hb e => by
            have h1 := hdl.out b hb
            have h2 := (own_lt hOw.out e).2
            omega)
          exact (Fr.of_set wc ⟨Wb, 2, none⟩ _).ok3 h6 (fun b hb (e : b = Wb) => hWd (e ▸ hb))
        have hsp := hide (spoil_any d _ Wb psv lv _ mk1 hd7 hdn.out hWd hW7.out hbd.out hk5 hk6)
        rw [D3.v] at hsp
        clear hd7 hWd
        go_wp2_with fail
        refine hsp.out.mono ?_
        rintro e w8 ⟨rfl, hs8⟩
        replace hs8 := hide hs8
        go_wp2
        go_roundw
        case rel =>
          have hst := hts'.out.step hWw.out hdl.out hdo.out hu1.out hu3.out hn.out (hAu.out.trans hu5'.out) hg'.out (cap := cap) (g := g) (by
            have := hown'.out
            rw [← hsm'.out] at this
            exact this) hat'.out hgl'.out hs8.out hbd.out hnr.out hnp.out
          exact ⟨k + 1, _, _, _, by omega, by go_num, hst⟩
        case measure => simp [intOf]; omega
    · have : k = 3 := by omega
      subst this
      clear hts
      go_wp2
      go_ret
      exact ⟨rfl, _, _, _, hts'.out⟩

theorem OK1.rf {w : World} {d : D1} (h : OK1 w d) : RF1 (fun b => b = d.b) w d.v d.r := by
  refine ⟨_, _, rfl, fun i p hp => ⟨d.b, rfl, rfl, ?_⟩⟩
  exact PRow.cells h (by rw [List.getElem?_append_left (Pl.lt_of_some hp)]; exact hp)
theorem OK2.rf {w : World} {d : D2} (h : OK2 w d) : RF2 (fun b => b ∈ d.bl) w d.v d.pts := by
  refine ⟨some ⟨d.b, 0, none⟩, d.rs.length + d.s.length, by simp [D2.v, D2.pts], fun i r hr => ?_⟩
  simp only [D2.pts, List.getElem?_map, Option.map_eq_some_iff] at hr
  obtain ⟨x, hx, rfl⟩ := hr
  have hx' : (d.rs ++ d.s)[i]? = some x := by rw [List.getElem?_append_left (Pl.lt_of_some hx)]; exact hx
  exact ⟨d.b, x.v, by simp [D2.bl], rfl, h.row.cell (by simp only [List.getElem?_map, hx']; rfl), (h.sub x (Pl.mem_of_some hx')).rf.keep (Fr.refl (fun _ => False) w) fun b _ hb => ⟨by rw [hb]; simp only [D2.bl, List.mem_cons, List.mem_map]; exact .inr ⟨x, Pl.mem_of_some hx', rfl⟩, fun e => e⟩⟩
theorem OK3.rf {w : World} {d : D3} (h : OK3 w d) : RF3 (fun b => b ∈ d.bl) w d.v d.m := by
  refine ⟨some ⟨d.b, 0, none⟩, d.ps.length + d.s.length, by simp [D3.v, D3.m], fun i r hr => ?_⟩
  simp only [D3.m, List.getElem?_map, Option.map_eq_some_iff] at hr
  obtain ⟨x, hx, rfl⟩ := hr
  have hx' : (d.ps ++ d.s)[i]? = some x := by rw [List.getElem?_append_left (Pl.lt_of_some hx)]; exact hx
  exact ⟨d.b, x.v, by simp [D3.bl], rfl, h.row.cell (by simp only [List.getElem?_map, hx']; rfl), (h.sub x (Pl.mem_of_some hx')).rf.keep (Fr.refl (fun _ => False) w) fun b _ hb => ⟨by simp only [D3.bl, List.mem_cons, List.mem_flatMap]; exact .inr ⟨x, Pl.mem_of_some hx', hb⟩, fun e => e⟩⟩

theorem told_any (F : Nat → Prop) (w : World) (Wb : Nat) (psv lv outv : Value) (mk : Int) (O : List OG) (x : Value) (m : Mult) (bx : Nat) (dx dm : D3) (hW : WR w Wb psv lv outv mk) (hown : w.ownsRow 0 98 6 outv O.length (cellsO O)) (hO : ∀ o ∈ O, HSo F w o)
    (hF : ∀ b, F b → b ≠ Wb ∧ outv.ownBlock ≠ some b) (hs : Set3 w x m bx dx) (hsx : ∀ b ∈ bx :: dx.bl, b ≠ Wb ∧ outv.ownBlock ≠ some b) (hmv : OK3 w dm) (hmm : dm.m = m) (hmx : ∀ b ∈ dm.bl, b ≠ Wb ∧ outv.ownBlock ≠ some b)
    (hb : Pl.Bd m) (hmany : Pl.many m = false) (hOb : O.length ≤ 536870912) (hk0 : 0 ≤ mk) (hk1 : mk ≤ 562949953421312) :
    Calls Tryz.prog 50 #[.pointer (some ⟨Wb, 0, none⟩), x, dm.v] w fun e w' => e = .returned (.bool true) ∧ ∃ outv' O' mk', TS w w' Wb psv lv outv mk F O.length 3 outv' O' mk' :=
  told_gen F w Wb psv lv outv mk O x m bx dx _ _ _ hW hown hO hF hs hsx (hmm ▸ hmv.rf.keep (Fr.refl (fun _ => False) w) fun b _ hb => ⟨hmx b hb, fun e => e⟩) hb hmany hOb hk0 hk1

end Go.Proofs.YtcclepohmhdpbaaGreatDoor
