/- THE WALKS: (*World).noted. -/
import Derived.Test.YtcclepohmhdpbaaGreatDoorNoted
import Derived.Deep.DeepCutAuto
namespace Go.Proofs.YtcclepohmhdpbaaGreatDoor
set_option linter.all false
open Go.RowKit Go.Deep
attribute [local go_sem ↓] Go.wp_at_zero Go.wp_at_succ

theorem results_cell {fn : Func} {p : Tmp} {ty : TypeId} (h : fn.results = #[.cell p ty]) (tmps : Array Value) (P : Program) (w : World) :
    (results fn tmps).run P w = ((asAddr (tmps.getD p undef)).run P w).andThen fun a w₁ => (loadVar ty a).run P w₁ := by
  simp only [results, h]
  simp [Sem.run_bind, Result.andThen]

theorem load_handed {W : World} {b : Nat} {v0 v1 v2 v3 v4 v5 : Value} (h : VRow W b 98 [v0, v1, v2, v3, v4, v5]) : (loadVar 98 ⟨b, 0, none⟩).run Tryz.prog W = .ok (.agg #[v0, v1, v2, v3, v4, v5]) W := by
  have c0 := h.cell (i := 0) (v := v0) rfl
  have c1 := h.cell (i := 1) (v := v1) rfl
  have c2 := h.cell (i := 2) (v := v2) rfl
  have c3 := h.cell (i := 3) (v := v3) rfl
  have c4 := h.cell (i := 4) (v := v4) rfl
  have c5 := h.cell (i := 5) (v := v5) rfl
  simp [go_sem, c0, c1, c2, c3, c4, c5]

theorem ret_handed {a : Act} {W : World} {Q : Ending → World → Prop} {b : Nat} {v0 v1 v2 v3 v4 v5 : Value} (h4 : a.tmps.getD 4 undef = .pointer (some ⟨b, 0, none⟩)) (hd : a.defers = []) (hrow : VRow W b 98 [v0, v1, v2, v3, v4, v5])
    (hQ : Q (.returned (.agg #[v0, v1, v2, v3, v4, v5])) W) : bodyPost Tryz.prog Tryz.f84 Q .ret a W := by
  refine bodyPost_ret (v := .agg #[v0, v1, v2, v3, v4, v5]) ?_ hd hQ
  rw [results_cell Tryz.results84, h4]
  simp only [asAddr, Sem.run_pure, Result.andThen_ok]
  exact load_handed hrow

set_option maxRecDepth 100000 in
set_option maxHeartbeats 4000000 in
theorem noted_any (d : D3) (w : World) (Wb : Nat) (ps l out : Value) (k : Int) (hd : OK3 w d) (hW : WR w Wb ps l out k)
    (hb : Pl.Bd d.m) (hnr : Pl.nR d.m ≤ 1048576) (hk0 : 0 ≤ k) (hk1 : k ≤ 1125899906842624) :
    Calls Tryz.prog 84 #[.pointer (some ⟨Wb, 0, none⟩), d.v] w fun e w' => ∃ pv rv rmv pmv, e = .returned (.agg #[d.v, pv, rv, rmv, pmv, .int .i64 (k + off d.ps)]) ∧ NPost w w' pv rv rmv pmv (polyVM d.ps k) (ringVM d.ps k) := by
  have hl2 : Hid (∀ x ∈ d.ps, x.rs.length ≤ 1048576) := by
    intro x hx
    have := hb.poly x.pts (List.mem_map_of_mem hx)
    simpa [D2.pts] using this
  have hl3 : d.ps.length ≤ 1048576 := by have := hb.len; simpa [D3.m] using this
  have hst := hide (NL.start w d)
  have hcm := hW.c3
  have hcmH := hide hcm
  have hd' := hide hd
  have hcm1 := fun o o' => ((((Up.refl w).alloc o).alloc o').cell hcm)
  rw [D3.v] at hst ⊢
  clear hd hW hb
  go_enter Tryz.func84, Tryz.ntmps84
  go_wp2
  clear hcm1 hcm
  go_loopw [6, 7] (fun kv i wr => ∃ (p : Nat) (pv rv rmv pmv : Value), p ≤ d.ps.length ∧ i = .int .i64 p ∧ kv = .int .i64 (k + off (d.ps.take p)) ∧ NQ w wr d k p pv rv rmv pmv) (fun _ i _ => d.ps.length - (intOf i).toNat)
  case atStart => exact ⟨0, _, _, _, _, Nat.zero_le _, rfl, by simp [off], ⟨hst.out⟩⟩
  case round =>
    obtain ⟨p, pv, rv, rmv, pmv, hp, rfl, rfl, hnq⟩ := hrel
    have hkb : Hid (off (d.ps.take p) ≤ p * 1048577) := off_le hl2.out p
    generalize hkk : k + (off (d.ps.take p) : Int) = kk at *
    have hkk' := hide hkk
    have hkb0 : 0 ≤ kk := by have := hkb.out; omega
    have hkb1 : kk ≤ 2251799813685248 := by have := hkb.out; omega
    clear hkk
    have hnl := hnq.nl
    clear hnq
    by_cases hlt : p < d.ps.length
    · obtain ⟨x, hx⟩ := Pl.some_of_lt hlt
      have hx' := hide hx
      have hxl := hl2.out x (Pl.mem_of_some hx)
      have hxc := hnl.up.cell (hd'.out.hdr hx)
      have ePV := hide (polyVM_snoc (d.ps.take p) x k)
      have eRV := hide (ringVM_snoc (d.ps.take p) x k)
      rw [← Pl.take_one hx] at ePV eRV
      clear hx
      have bPC : Hid ((polyVM (d.ps.take p) k).length ≤ 1048576) := by rw [polyVM_length, List.length_take]; show _ ≤ _; omega
      have bRC : Hid ((ringVM (d.ps.take p) k).length ≤ 536870912) := by have := ringVM_nR d p k; show _ ≤ _; omega
      generalize hpc : polyVM (d.ps.take p) k = PC at *
      generalize hrc : ringVM (d.ps.take p) k = RC at *
      have hpc' := hide hpc
      have hrc' := hide hrc
      clear hpc hrc
      have hnl' := hide hnl
      have c1 := hnl.row.cell (i := 1) (v := pv) rfl
      have hpcl : (fstV PC).length ≤ 1073741824 := by rw [fstV_length]; have := bPC.out; omega
      have hpcl' := hide hpcl
      have hnlA := hide (fun o => (hnl.alloc o).opv)
      have hbs := hide hnl.up.size
      clear hnl hpcl
      have c1a := fun o => ((Up.refl wr).alloc o).cell c1
      have xca := fun o => ((Up.refl wr).alloc o).cell hxc
      go_upto_region 6 with fail
      go_cut [8] (fun s wc => ∃ (g cap : Nat), s = .slice (some ⟨g, 0, none⟩) ((fstV PC).length + 1) cap ∧ Hid (∃ w0, Up wr w0 ∧ NL w w0 (w.heap.size + 1) (.slice (some ⟨d.b, 0, none⟩) d.ps.length (d.ps.length + d.s.length)) pv rv rmv pmv (fstV PC) (fstV RC) (intV RC) (intV PC) 0 ∧ w0.grownBy wc pv.ownBlock ∧ wc.ownsRow w.heap.size 33 1 (.slice (some ⟨g, 0, none⟩) ((fstV PC).length + 1) cap) ((fstV PC).length + 1) (fstV PC ++ [x.v])))
      case first =>
        go_region_law ((refine step_app el_polys rfl (.tmp 24) (.tmp 29) rfl w.heap.size pv _ _ (by rfl) (hnlA.out _) wr.heap.size [x.v] (by rfl) rfl (heap_alloc_new wr _) (by intro u hu; simp at hu; subst hu; rfl) hpcl'.out (by simp; have := hbs.out; omega) ?_; intro g cap w1 hown1 hg1 hat1 hlt1))
        all_goals
          have hown1' := hide hown1
          have hg1' := hide hg1
          clear hown1 hg1 hat1 hlt1
          go_wp2
          go_meet
          case rel => exact ⟨g, cap, rfl, _, (Up.refl wr).alloc _, hnl'.out.alloc _, ⟨hg1'.out.os, hg1'.out.tape, hg1'.out.output, hg1'.out.size, hg1'.out.block⟩, hown1'.out⟩
      case rest =>
        obtain ⟨g, cap, rfl, hcut⟩ := hcut
        obtain ⟨w0, hup0, hnl0, hg0, hown0⟩ := hcut.out
        have r1 := hnl0.row.grown hg0 (own_row_ne hnl0.opv hnl0.row (by decide))
        have rc1 := r1.cell (i := 1) (v := pv) rfl
        have rf1 := r1.frozen 1
        have hnl2 := hide (hnl0.pv hown0 hg0)
        clear hup0 hnl0 hg0 hown0 r1 hcut c1 c1a xca hxc
        go_wp2
        clear rc1 rf1
        go_loopw [6, 9] (fun kv j wr => ∃ (q : Nat) (rv rmv : Value), q ≤ x.rs.length ∧ j = .int .i64 q ∧ kv = .int .i64 (kk + q) ∧ NL w wr (w.heap.size + 1) (.slice (some ⟨d.b, 0, none⟩) d.ps.length (d.ps.length + d.s.length)) (.slice (some ⟨g, 0, none⟩) ((fstV PC).length + 1) cap) rv rmv pmv (fstV PC ++ [x.v]) (fstV (RC ++ rvm (x.rs.take q) kk)) (intV (RC ++ rvm (x.rs.take q) kk)) (intV PC) 0) (fun _ j _ => x.rs.length - (intOf j).toNat)
        case atStart => exact ⟨0, rv, rmv, Nat.zero_le _, rfl, by simp, by simpa [rvm] using hnl2.out⟩
        case round =>
          obtain ⟨q, rv2, rmv2, hq, rfl, rfl, hnq⟩ := hrel
          have hxc := hnq.up.cell (hd'.out.hdr hx'.out)
          by_cases hlq : q < x.rs.length
          · obtain ⟨y, hy⟩ := Pl.some_of_lt hlq
            have hyc := hnq.up.cell ((hd'.out.sub x (List.mem_append_left _ (Pl.mem_of_some hx'.out))).hdr hy)
            have eR := hide (rvm_snoc (x.rs.take q) y kk)
            rw [← Pl.take_one hy, List.length_take, Nat.min_eq_left (by omega)] at eR
            have bR2 : Hid ((RC ++ rvm (x.rs.take q) kk).length ≤ 1073741824) := by
              rw [List.length_append, rvm_length, List.length_take]; have := bRC.out; show _ ≤ _; omega
            generalize hrc2 : RC ++ rvm (x.rs.take q) kk = RQ at *
            have hrc2' := hide hrc2
            clear hrc2 hy
            have hnq' := hide hnq
            have c2 := hnq.row.cell (i := 2) (v := rv2) rfl
            have hrl' : Hid ((fstV RQ).length ≤ 1073741824) := by rw [fstV_length]; exact bR2.out
            have hml' : Hid ((intV RQ).length ≤ 1073741824) := by rw [intV_length]; exact bR2.out
            have hnqA := hide (fun o => (hnq.alloc o).orv)
            have hbs2 := hide hnq.up.size
            have c2a := fun o => ((Up.refl wr).alloc o).cell c2
            have xca := fun o => ((Up.refl wr).alloc o).cell hxc
            have yca := fun o => ((Up.refl wr).alloc o).cell hyc
            clear hnq
            go_upto_region 11 with fail
            go_cut [10] (fun s wc => ∃ (g2 cap2 : Nat), s = .slice (some ⟨g2, 0, none⟩) ((fstV RQ).length + 1) cap2 ∧ Hid (∃ w0, NL w w0 (w.heap.size + 1) (.slice (some ⟨d.b, 0, none⟩) d.ps.length (d.ps.length + d.s.length)) (.slice (some ⟨g, 0, none⟩) ((fstV PC).length + 1) cap) rv2 rmv2 pmv (fstV PC ++ [x.v]) (fstV RQ) (intV RQ) (intV PC) 0 ∧ w0.grownBy wc rv2.ownBlock ∧ wc.ownsRow w.heap.size 30 1 (.slice (some ⟨g2, 0, none⟩) ((fstV RQ).length + 1) cap2) ((fstV RQ).length + 1) (fstV RQ ++ [y.v])))
            case first =>
              go_region_law ((refine step_app el_rings rfl (.tmp 43) (.tmp 51) rfl w.heap.size rv2 _ _ (by rfl) (hnqA.out _) wr.heap.size [y.v] (by rfl) rfl (heap_alloc_new wr _) (by intro u hu; simp at hu; subst hu; rfl) hrl'.out (by simp; have := hbs2.out; omega) ?_; intro g2 cap2 w1 hown1 hg1 hat1 hlt1))
              all_goals
                have hown1' := hide hown1
                have hg1' := hide hg1
                clear hown1 hg1 hat1 hlt1
                go_wp2
                go_meet
                case rel => exact ⟨g2, cap2, rfl, _, hnq'.out.alloc _, ⟨hg1'.out.os, hg1'.out.tape, hg1'.out.output, hg1'.out.size, hg1'.out.block⟩, hown1'.out⟩
            case rest =>
              obtain ⟨g2, cap2, rfl, hcut⟩ := hcut
              obtain ⟨w0, hnl0, hg0, hown0⟩ := hcut.out
              have r1 := hnl0.row.grown hg0 (own_row_ne hnl0.orv hnl0.row (by decide))
              have rc1 := r1.cell (i := 2) (v := rv2) rfl
              have rf1 := r1.frozen 2
              have hnl3 := hnl0.rv hown0 hg0
              obtain ⟨W3, hW3⟩ : ∃ W3, W3 = wc.setCell ⟨w.heap.size + 1, 2, none⟩ (.slice (some ⟨g2, 0, none⟩) ((fstV RQ).length + 1) cap2) := ⟨_, rfl⟩
              rw [← hW3] at hnl3
              clear hnl0 hg0 hown0 r1 hcut c2 c2a xca yca hxc hyc
              go_upto_region 13 with fail
              rw [← hW3]
              clear rc1 rf1 hW3
              have hnl3' := hide hnl3
              have rc3 := hnl3.row.cell (i := 3) (v := rmv2) rfl
              have rc3a := fun o => ((Up.refl W3).alloc o).cell rc3
              have hA3 := hide (fun o => (hnl3.alloc o).orm)
              have hbs3 := hide hnl3.up.size
              have hnl3a := hide (hnl3.alloc (.cells #[.int .i64 (kk + q)] 3))
              have hne3 := hide (own_row_ne hnl3a.out.orm hnl3a.out.row (by decide))
              clear hnl3
              go_wp2_with (at_builtin; go_must (refine wpList_app el_ints rfl (.tmp 56) (.tmp 58) rfl w.heap.size rmv2 _ _ (by rfl) (hA3.out _) W3.heap.size [.int .i64 (kk + q)] (by rfl) rfl (heap_alloc_new W3 _) (by intro u hu; simp at hu; subst hu; rfl) hml'.out (by simp; have := hbs3.out; omega) ?_); intro g3 cap3 w4 hown4 hg4 hat4 hlt4; have r4 := hnl3a.out.row.grown hg4 hne3.out; have rc4 := r4.cell (i := 3) (v := rmv2) rfl; have rf4 := r4.frozen 3; replace hown4 := hide hown4; replace hg4 := hide hg4; replace hat4 := hide hat4; clear r4)
              go_roundw
              case rel =>
                have h5 := hnl3a.out.rm hown4.out hg4.out hat4.out
                have e6 : RC ++ rvm (x.rs.take (q + 1)) kk = RQ ++ [(y.v, kk + q)] := by rw [eR.out, ← List.append_assoc, hrc2'.out]
                rw [show fstV RQ ++ [y.v] = fstV (RC ++ rvm (x.rs.take (q + 1)) kk) from by rw [e6, fstV_snoc], show intV RQ ++ [.int .i64 (kk + q)] = intV (RC ++ rvm (x.rs.take (q + 1)) kk) from by rw [e6, intV_snoc]] at h5
                exact ⟨q + 1, _, _, by omega, by go_num, by go_num, h5⟩
              case measure => simp [intOf]; omega
          · have : q = x.rs.length := by omega
            subst this
            rw [List.take_length] at hnq
            have hnq' := hide hnq
            have rc4 := hnq.row.cell (i := 4) (v := pmv) rfl
            have rc4a := fun o => ((Up.refl wr).alloc o).cell rc4
            have hA3 := hide (fun o => (hnq.alloc o).opm)
            have hbs3 := hide hnq.up.size
            have hml' : Hid ((intV PC).length ≤ 1073741824) := by rw [intV_length]; have := bPC.out; show _ ≤ _; omega
            have hnl3a := hide (hnq.alloc (.cells #[.int .i64 (kk + x.rs.length)] 3))
            have hne3 := hide (own_row_ne hnl3a.out.opm hnl3a.out.row (by decide))
            clear hnq
            go_wp2_with (at_builtin; refine wpList_app el_ints rfl (.tmp 64) (.tmp 66) rfl w.heap.size pmv _ _ (by rfl) (hA3.out _) wr.heap.size [.int .i64 (kk + x.rs.length)] (by rfl) rfl (heap_alloc_new wr _) (by intro u hu; simp at hu; subst hu; rfl) hml'.out (by simp; have := hbs3.out; omega) ?_; intro g3 cap3 w4 hown4 hg4 hat4 hlt4; have r4 := hnl3a.out.row.grown hg4 hne3.out; have rc5 := r4.cell (i := 4) (v := pmv) rfl; have rf5 := r4.frozen 4; replace hown4 := hide hown4; replace hg4 := hide hg4; replace hat4 := hide hat4; clear r4)
            go_roundw
            case rel =>
              have h5 := hnl3a.out.pm hown4.out hg4.out hat4.out
              rw [hkk'.out] at ePV eRV
              have eo := off_succ hx'.out
              have e1 : polyVM (d.ps.take (p + 1)) k = PC ++ [(x.v, kk + x.rs.length)] := ePV.out
              have e2 : ringVM (d.ps.take (p + 1)) k = RC ++ rvm x.rs kk := eRV.out
              rw [show fstV PC ++ [x.v] = fstV (polyVM (d.ps.take (p + 1)) k) from by rw [e1, fstV_snoc], show intV PC ++ [.int .i64 (kk + x.rs.length)] = intV (polyVM (d.ps.take (p + 1)) k) from by rw [e1, intV_snoc], ← e2] at h5
              exact ⟨p + 1, _, _, _, _, by omega, by go_num, by rw [eo, ← hkk'.out]; go_num, ⟨h5⟩⟩
            case measure => simp [intOf]; omega
    · have : p = d.ps.length := by omega
      subst this
      rw [List.take_length] at hkk' hnl
      have c0 := hnl.row.cell (i := 0) (v := .slice (some ⟨d.b, 0, none⟩) d.ps.length (d.ps.length + d.s.length)) rfl
      have c1 := hnl.row.cell (i := 1) (v := pv) rfl
      have c2 := hnl.row.cell (i := 2) (v := rv) rfl
      have c3 := hnl.row.cell (i := 3) (v := rmv) rfl
      have c4 := hnl.row.cell (i := 4) (v := pmv) rfl
      have c5 := hnl.row.cell (i := 5) (v := .int .i64 0) rfl
      have f5 := hnl.row.frozen 5
      have hsm := hnl.sm kk
      have z0 := hsm.res.cell (i := 0) (v := .slice none 0 0) rfl
      have z1 := hsm.res.cell (i := 1) (v := .slice none 0 0) rfl
      have z2 := hsm.res.cell (i := 2) (v := .slice none 0 0) rfl
      have z3 := hsm.res.cell (i := 3) (v := .slice none 0 0) rfl
      have z4 := hsm.res.cell (i := 4) (v := .slice none 0 0) rfl
      have z5 := hsm.res.cell (i := 5) (v := .int .i64 0) rfl
      have zf := fun i => hsm.res.frozen i
      have hsm' := hide hsm
      obtain ⟨a1, n1, k1, rfl⟩ : ∃ a n k, pv = .slice a n k := own_shape hnl.opv
      obtain ⟨a2, n2, k2, rfl⟩ : ∃ a n k, rv = .slice a n k := own_shape hnl.orv
      obtain ⟨a3, n3, k3, rfl⟩ : ∃ a n k, rmv = .slice a n k := own_shape hnl.orm
      obtain ⟨a4, n4, k4, rfl⟩ : ∃ a n k, pmv = .slice a n k := own_shape hnl.opm
      clear hnl hsm
      go_wp2
      refine ret_handed (b := w.heap.size) (by rfl) rfl ((((((hsm'.out.res.set 0 _).set 1 _).set 2 _).set 3 _).set 4 _).set 5 _) ?_
      refine ⟨_, _, _, _, ?_, hsm'.out.post ((((((Fr.setCell (Fr.refl _ _) ?_ _).setCell ?_ _).setCell ?_ _).setCell ?_ _).setCell ?_ _).setCell ?_ _)⟩
      · rw [hkk'.out]
      all_goals rfl

end Go.Proofs.YtcclepohmhdpbaaGreatDoor
