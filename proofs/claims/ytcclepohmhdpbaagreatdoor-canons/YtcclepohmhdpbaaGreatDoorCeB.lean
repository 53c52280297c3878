/- THE DOCUMENT's WALKS: Canon. -/
import Derived.Test.YtcclepohmhdpbaaGreatDoorCeA
import Derived.Test.YtcclepohmhdpbaaGreatDoorRfH
import Derived.Test.YtcclepohmhdpbaaGreatDoorRfB
namespace Go.Proofs.YtcclepohmhdpbaaGreatDoor
set_option linter.all false
open Go.RowKit Go.Deep

theorem el_mul : Elem Tryz.prog 50 33 (.slice none 0 0) 1 24 := ⟨by kernel_rfl, info_rings, rfl, by omega, by omega⟩
/-- What is asked of a set that the document writes in the one way. -/
structure DZ (m : Mult) : Prop where
  len : m.length ≤ 1048576
  poly : ∀ l ∈ m, l.length ≤ 1048576
  ring : ∀ l ∈ m, ∀ r ∈ l, 2 ≤ r.length ∧ r.length ≤ 1048576 ∧ Vd.CdR r ∧ 1 ≤ (Vd.cornersU r).length
def cR (x y : DcV) : Int := Vd.cmpR x.r y.r
def cP (x y : DcP) : Int := Vd.cmpP x.m y.m
theorem DZ.rd {m : Mult} (h : DZ m) {l : Poly} (hl : l ∈ m) {x : Ring} (hx : x ∈ Vd.polyD l) : x.length ≤ 1048576 := by
  obtain ⟨r, hr, b, rfl⟩ := Vd.polyD_mem hx
  have h1 := Vd.ringD_size r b
  have h2 := Vd.cornersU_size r
  have h3 := h.ring l hl r hr
  omega
set_option maxRecDepth 8000 in
set_option maxHeartbeats 16000000 in
theorem canonD_any (v : Value) (m : Mult) (w : World) (hv : Rd3 w v m) (hz : DZ m) :
    Calls Tryz.prog 58 #[v] w fun e w' => ∃ (u : Value) (L : List DcP), e = .returned u ∧ Up w w' ∧ DcO w.heap.size w' u L ∧ L.map DcP.m = Vd.canonD m := by
  obtain ⟨ao, cap, rfl, hm⟩ := hv
  have HM := hide hm
  have HZ := hide hz
  have hl := hz.len
  have HDf : Hid (Vd.canonD m = Vd.sortD Vd.cmpP (m.map Vd.polyD)) := rfl
  clear hm hz
  go_enter Tryz.func58, Tryz.ntmps58
  go_wp2
  go_loopw [3, 4] (fun fv i wr => ∃ (k : Nat) (u : Value) (L : List DcP), i = .int .i64 k ∧ u = fv ∧ k ≤ m.length ∧ L.length = k ∧ Hid (Up w wr) ∧ Hid (DcO w.heap.size wr u L) ∧ Hid (L.map DcP.m = Vd.sortD Vd.cmpP ((m.take k).map Vd.polyD))) (fun _ i _ => m.length - (intOf i).toNat)
  case atStart => exact ⟨0, _, [], rfl, rfl, Nat.zero_le _, rfl, Up.refl _, DcO.nil _ _, rfl⟩
  case round =>
    obtain ⟨k, u, L, rfl, rfl, hk, hLk, HU, HQ, HE⟩ := hrel
    subst hLk
    by_cases hlt : L.length < m.length
    · obtain ⟨P, hr⟩ := Pl.some_of_lt hlt
      obtain ⟨b, y, rfl, cy, hy⟩ := HM.out L.length P hr
      obtain ⟨ya, yc, rfl, hym⟩ := hy
      have HYM := hide hym
      have Cy := hide (HU.out.cell cy)
      have HPm := hide (Pl.mem_of_some hr)
      have hPl := HZ.out.poly P HPm.out
      have HZr := hide (HZ.out.ring P HPm.out)
      have HEn : Hid (∀ L' : List DcP, L'.map DcP.m = Vd.insB Vd.cmpP (L.map DcP.m) (Vd.polyD P) → L'.map DcP.m = Vd.sortD Vd.cmpP ((m.take (L.length + 1)).map Vd.polyD)) := fun L' h => by
        rw [h, HE.out, Pl.take_one hr, List.map_append]
        exact (Vd.sortD_snoc _ _ _).symm
      have i1 : (0 : Int) ≤ (L.length : Int) := by omega
      have i2 : (L.length : Int) < (m.length : Int) := by omega
      obtain ⟨ua, uc, rfl⟩ := own_len HQ.out.own
      obtain ⟨wp, hwp⟩ : ∃ wp : World, wp = wr := ⟨_, rfl⟩
      subst hwp
      have Cy2 := Cy.out
      clear hr cy hym
      go_wp2
      clear Cy2
      go_loopw [5, 6] (fun qv j wr => ∃ (s : Nat) (u5 : Value) (l : List DcV), j = .int .i64 s ∧ u5 = qv ∧ s ≤ P.length ∧ l.length = s ∧ Hid (Up wp wr) ∧ Hid (DcQ wp.heap.size wr u5 l) ∧ Hid (l.map DcV.r = Vd.polyD (P.take s))) (fun _ j _ => P.length - (intOf j).toNat)
      case atStart => exact ⟨0, _, [], rfl, rfl, Nat.zero_le _, rfl, Up.refl _, DcQ.nil _ _, rfl⟩
      case round =>
        obtain ⟨s, u5, l, rfl, rfl, hs, hls, HU1, HQ1, HE1⟩ := hrel
        subst hls
        have Cy1 := HU1.out.cell Cy.out
        have i3 : (0 : Int) ≤ (l.length : Int) := by omega
        by_cases hlt1 : l.length < P.length
        · obtain ⟨r, hr⟩ := Pl.some_of_lt hlt1
          obtain ⟨b2, z, rfl, cz, hz⟩ := HYM.out l.length r hr
          have HCz := HU1.out.cell (HU.out.cell cz)
          obtain ⟨g1, g2, g3, g4⟩ := HZr.out r (Pl.mem_of_some hr)
          have i4 : (l.length : Int) < (P.length : Int) := by omega
          have HKc := hide (cornersU_any z r (decide (l.length = 0)) wr ((hz.up HU.out).up HU1.out) g2 g1 g3)
          have hcl : Hid (1 ≤ (Vd.cornersD r (decide (l.length = 0))).length ∧ (Vd.cornersD r (decide (l.length = 0))).length ≤ 1048576 ∧ (Vd.roundD (Vd.cornersD r (decide (l.length = 0)))).length ≤ 1048576) := by
            have h1 := cornersU_len r
            have h2 := cornersD_len r (decide (l.length = 0))
            have h3 := roundD_len (Vd.cornersD r (decide (l.length = 0)))
            show _ ∧ _ ∧ _; omega
          have HEr : Hid (∀ l' : List DcV, l'.map DcV.r = insH Vd.cmpR (l.map DcV.r) (Vd.roundD (Vd.cornersD r (decide (l.length = 0)))) → l'.map DcV.r = Vd.polyD (P.take (l.length + 1))) := fun l' h => by
            rw [h, HE1.out, Pl.take_one hr, polyD_snoc, List.length_take, Nat.min_eq_left (by omega)]; rfl
          have i5 : ((l.length : Int) == 0) = decide (l.length = 0) := by
            by_cases h : l.length = 0
            · rw [h]; rfl
            · rw [decide_eq_false h]; exact beq_eq_false_iff_ne.2 (by omega)
          generalize decide (l.length = 0) = fl at *
          clear hr cz hz g1 g2 g3 g4
          go_wp2_with fail
          refine HKc.out.mono ?_
          rintro e w2 ⟨cv, rfl, hu2, hown2⟩
          have HKr := hide (round_any cv _ w2 hown2 hcl.out.2.1 hcl.out.1)
          obtain ⟨ca, cc, rfl⟩ := own_len hown2
          have HU2 := hide hu2
          clear hu2 hown2 HKc
          go_wp2_with fail
          refine HKr.out.mono ?_
          rintro e w3 ⟨dv, rfl, hu3, hown3⟩
          obtain ⟨da, dc, rfl⟩ := own_len hown3
          have HU3 := hide (HU2.out.trans hu3)
          have hRl := hide hcl.out.2.2
          have hbs : Hid (wp.heap.size ≤ w2.heap.size ∧ wp.heap.size ≤ w3.heap.size) := ⟨Nat.le_trans HU1.out.size HU2.out.size, Nat.le_trans HU1.out.size HU3.out.size⟩
          generalize Vd.roundD (Vd.cornersD r fl) = R at *
          have HX : Hid (DcV.ok wp.heap.size w3 ⟨da, dc, R⟩) := own_base hown3 hbs.out.1
          clear hu3 hown3 HKr hcl
          have HUa : Hid (Up wr (w3.alloc (.cells #[.slice da R.length dc] 30))) := HU3.out.alloc _
          have HXa : Hid (DcV.ok wp.heap.size (w3.alloc (.cells #[.slice da R.length dc] 30)) ⟨da, dc, R⟩) := HX.out.up ((Up.refl _).alloc _)
          have HQa := hide (HQ1.out.up HUa.out)
          have hHeap : Hid ((w3.alloc (.cells #[.slice da R.length dc] 30)).heap[w3.heap.size]? = some (.cells [Value.slice da R.length dc].toArray 30 (0, 0))) := VRow.new w3 [.slice da R.length dc] 30
          have hBs : Hid (wp.heap.size ≤ (w3.alloc (.cells #[.slice da R.length dc] 30)).heap.size) := by
            have := hbs.out.2; simp [Hid]; omega
          have hXb : Hid (l.length ≤ 1073741824) := by show _ ≤ _; omega
          obtain ⟨qa, qc, rfl⟩ := own_len HQ1.out.own
          go_upto_region 14 with (at_builtin; refine wpList_app el_rings rfl (.tmp 43) (.tmp 45) rfl wp.heap.size _ _ _ (by rfl) HQa.out.own w3.heap.size [.slice da R.length dc] (by rfl) rfl hHeap.out (by intro z hz; simp at hz; subst hz; rfl) hXb.out hBs.out ?_; intro g5 cap5 w5 hown5 hg5 hat5 hlt5; have HQ5 := hide (HQa.out.push (x := ⟨da, dc, R⟩) HXa.out hg5 hown5); have HU5 : Hid (Up wp w5) := Fr.up (S := fun _ => False) ((Fr.of_up (HU1.out.trans HUa.out)).grown hg5 fun z hz => .inr (own_lt HQ1.out.own hz).1) (fun _ _ h => h); clear hown5 hg5 hat5 hlt5)
          have hNl : Hid (l.length + 1 ≤ 1048577) := by show _ ≤ _; omega
          have HSz : Hid (∀ y ∈ l, y.r.length ≤ 1048576) := fun y hy => by
            have : y.r ∈ Vd.polyD (P.take l.length) := by rw [← HE1.out]; exact List.mem_map_of_mem hy
            obtain ⟨r0, hr0, b0, e0⟩ := Vd.polyD_mem this
            rw [e0]
            have h1 := Vd.ringD_size r0 b0
            have h2 := Vd.cornersU_size r0
            have h3 := HZr.out r0 (List.mem_of_mem_take hr0)
            omega
          obtain ⟨N, hN⟩ : ∃ N, N = l.length + 1 := ⟨_, rfl⟩
          rw [← hN] at HQ5 ⊢
          have hN2 : N ≤ 1048577 := by have := hNl.out; omega
          have HN := hide hN
          have j0 : IntKind.i64.wrap ((N : Int) - 1) = (l.length : Int) := by rw [wrap_id (by omega) (by omega)]; omega
          clear hN HQa HXa HUa hHeap hBs HX HU3 HU2 hXb
          go_wp2
          clear j0
          go_loopw [9] (fun i wr => ∃ (t : Nat) (A B : List DcV), i = .int .i64 t ∧ A.length = t ∧ t + 1 ≤ N ∧ Hid (∀ y ∈ A, y ∈ l) ∧ Hid (Up wp wr) ∧ Hid (DcQ wp.heap.size wr (.slice (some ⟨g5, 0, none⟩) N cap5) (A ++ ⟨da, dc, R⟩ :: B)) ∧ Hid (insH cR A ⟨da, dc, R⟩ ++ B = insH cR l ⟨da, dc, R⟩)) (fun i _ => (intOf i).toNat)
          case atStart => exact ⟨l.length, l, [], rfl, rfl, Nat.le_of_eq HN.out.symm, fun y hy => hy, HU5, HQ5, by rw [List.append_nil]; exact rfl⟩
          case round =>
            obtain ⟨t, A, B, rfl, hAt, htN, HAl, HU6, HQ6, HE6⟩ := hrel
            by_cases ht : 1 < t
            · have i6 : (1 : Int) < (t : Int) := by omega
              obtain ⟨A', y, rfl⟩ : ∃ A' y, A = A' ++ [y] := by
                rcases List.eq_nil_or_concat A with e | ⟨A', y, e⟩
                · rw [e] at hAt; simp at hAt; omega
                · exact ⟨A', y, by rw [e, List.concat_eq_append]⟩
              rw [List.length_append] at hAt
              obtain ⟨z, hz⟩ : ∃ z, A'.length = z := ⟨_, rfl⟩
              have hzt : t = z + 1 := by rw [← hAt, hz]; rfl
              rw [List.append_assoc] at HQ6
              have HQ6' : Hid (DcQ wp.heap.size wr (.slice (some ⟨g5, 0, none⟩) N cap5) (A' ++ y :: ⟨da, dc, R⟩ :: B)) := HQ6.out
              have Ct : Hid (wr.cell? ⟨g5, t, none⟩ = some (.slice da R.length dc)) := HQ6'.out.cell (i := t) (x := ⟨da, dc, R⟩) (by rw [hzt, ← hz, List.getElem?_append_right (by omega), show A'.length + 1 - A'.length = 1 by omega]; rfl)
              have Cz : Hid (wr.cell? ⟨g5, z, none⟩ = some (.slice y.a y.r.length y.c)) := HQ6'.out.cell (i := z) (x := y) (by rw [← hz, List.getElem?_append_right (by omega), Nat.sub_self]; rfl)
              have Hyr := hide (HQ6'.out.ok y (by simp)).rd
              have Hxr := hide (HQ6'.out.ok ⟨da, dc, R⟩ (by simp)).rd
              have Hyl := hide (HSz.out y (HAl.out y (by simp)))
              have HK1 : Hid (∀ g : Gr wr, Calls Tryz.prog 54 #[.slice da R.length dc, .slice y.a y.r.length y.c] g.v fun e w' => e = .returned (.bool (decide (Vd.cmpR R y.r < 0))) ∧ Up g.v w') := fun g => less_any _ _ R y.r _ (Hxr.out.up g.up) (Hyr.out.up g.up) hRl.out Hyl.out
              have HSw : Hid (∀ w7, Up wr w7 → DcQ wp.heap.size ((w7.setCell ⟨g5, t, none⟩ (.slice y.a y.r.length y.c)).setCell ⟨g5, z, none⟩ (.slice da R.length dc)) (.slice (some ⟨g5, 0, none⟩) N cap5) (A' ++ ⟨da, dc, R⟩ :: y :: B)) := fun w7 hu => by
                have := (HQ6'.out.up hu).swap
                rw [hz, ← hzt] at this
                exact this
              have HSn : Hid (insH cR (A' ++ [y]) ⟨da, dc, R⟩ = if Vd.cmpR R y.r < 0 then insH cR A' ⟨da, dc, R⟩ ++ [y] else A' ++ [y] ++ [⟨da, dc, R⟩]) := insH_snoc cR _ _ (by omega)
              have e0 := cell_gr Ct.out
              have f0 := cell_gr Cz.out
              have i7 : (0 : Int) ≤ (t : Int) := by omega
              have i8 : (t : Int) < (N : Int) := by omega
              have i9 : IntKind.i64.wrap ((t : Int) - 1) = (z : Int) := by rw [wrap_id (by omega) (by omega)]; omega
              have j1 : (0 : Int) ≤ (z : Int) := by omega
              have j2 : (z : Int) < (N : Int) := by omega
              have HZt := hide hzt
              have HAz := hide hz
              have hgl := hide (own_lt HQ6'.out.own (g := g5) rfl)
              try dsimp only at e0 f0
              clear hzt hz hAt
              go_upto_region 16 with fail
              refine wp_region_up (by kernel_rfl) (by kernel_rfl) ?_
              repeat (first | go_big_quiet_step ((go_at_call 54; exact Calls.up_of (HK1.out _))))
              refine wpQuiet_nil ?_
              rintro w7 ⟨⟨_, u7⟩, rfl⟩
              have HU7 := hide (HU6.out.trans u7)
              have HSw7 := hide (HSw.out w7 u7)
              have c0 := u7.cell Ct.out
              have c1 := u7.cell Cz.out
              have fz : ∀ i, w7.frozen? ⟨g5, i, none⟩ = false := fun i => own_frozen (HQ6'.out.up u7).own rfl i
              have HQ7 := hide (HQ6'.out.up u7)
              try dsimp only at c0 c1
              clear u7 e0 f0 HK1 HSw
              by_cases hc : Vd.cmpR R y.r < 0
              · rw [decide_eq_true hc]
                rw [if_pos hc] at HSn
                clear hc
                have b1 : ∀ u, (w7.setCell ⟨g5, t, none⟩ u).cell? ⟨g5, z, none⟩ = some (.slice y.a y.r.length y.c) := fun u => by
                  have := HZt.out
                  rw [World.cell?_setCell_other _ _ _ _ (by simp <;> omega)]; exact c1
                have z1 : ∀ i u a1, (w7.setCell a1 u).frozen? ⟨g5, i, none⟩ = false := fun i u a1 => by rw [World.frozen?_setCell]; exact fz i
                have HUs : Hid (∀ u1 u2, Up wp ((w7.setCell ⟨g5, t, none⟩ u1).setCell ⟨g5, z, none⟩ u2)) := fun u1 u2 => Up.setCell (Up.setCell HU7.out hgl.out.1 _) hgl.out.1 _
                go_wp2
                go_roundw
                case rel => exact ⟨z, A', y :: B, rfl, HAz.out, by have := HZt.out; omega, fun q hq => HAl.out q (List.mem_append_left _ hq), HUs.out _ _, HSw7.out, by have h := HE6.out; rw [HSn.out] at h; rw [← h, List.append_assoc]; exact rfl⟩
                case measure => have := HZt.out; simp [intOf]; omega
              · rw [decide_eq_false hc]
                rw [if_neg hc] at HSn
                clear hc
                have HQf : Hid (DcQ wp.heap.size w7 (.slice (some ⟨g5, 0, none⟩) N cap5) (insH cR l ⟨da, dc, R⟩)) := by
                  have h := HE6.out
                  rw [HSn.out] at h
                  rw [← h]
                  have h2 := HQ7.out
                  show DcQ _ _ _ _
                  simpa using h2
                replace HU6 := HU7
                go_wp2
                go_roundw
                case rel => exact ⟨l.length + 1, _, insH cR l ⟨da, dc, R⟩, by go_num, rfl, by omega, insH_len _ _ _, HU6, HQf, HEr.out _ (insH_map DcV.r Vd.cmpR _ _)⟩
                case measure => simp [intOf]; omega
            · have i6 : ¬ (1 : Int) < (t : Int) := by omega
              have HQf : Hid (DcQ wp.heap.size wr (.slice (some ⟨g5, 0, none⟩) N cap5) (insH cR l ⟨da, dc, R⟩)) := by
                have h := HE6.out
                rw [insH_one cR _ (by omega)] at h
                rw [← h, List.append_assoc]
                exact HQ6.out
              go_wp2
              go_roundw
              case rel => exact ⟨l.length + 1, _, insH cR l ⟨da, dc, R⟩, by go_num, rfl, by omega, insH_len _ _ _, HU6, HQf, HEr.out _ (insH_map DcV.r Vd.cmpR _ _)⟩
              case measure => simp [intOf]; omega
        · have i4 : ¬ (l.length : Int) < (P.length : Int) := by omega
          have HEl : Hid (l.map DcV.r = Vd.polyD P) := by have h := HE1.out; rw [show l.length = P.length by omega, List.take_length] at h; exact h
          obtain ⟨qa, qc, rfl⟩ := own_len HQ1.out.own
          have HUw : Hid (Up w wr) := HU.out.trans HU1.out
          have hbs : Hid (w.heap.size ≤ wp.heap.size ∧ w.heap.size ≤ wr.heap.size) := ⟨HU.out.size, HUw.out.size⟩
          have HX : Hid (DcQ w.heap.size wr (.slice qa l.length qc) l) := HQ1.out.base hbs.out.1
          have HQw := hide (HQ.out.up HU1.out)
          have HXa : Hid (DcQ w.heap.size (wr.alloc (.cells #[.slice qa l.length qc] 33)) (.slice qa l.length qc) l) := HX.out.up ((Up.refl _).alloc _)
          have HQa : Hid (DcO w.heap.size (wr.alloc (.cells #[.slice qa l.length qc] 33)) (.slice ua L.length uc) L) := HQw.out.up ((Up.refl _).alloc _)
          have hHeap : Hid ((wr.alloc (.cells #[.slice qa l.length qc] 33)).heap[wr.heap.size]? = some (.cells [Value.slice qa l.length qc].toArray 33 (0, 0))) := VRow.new wr [.slice qa l.length qc] 33
          have hBs : Hid (w.heap.size ≤ (wr.alloc (.cells #[.slice qa l.length qc] 33)).heap.size) := by
            have := hbs.out.2; simp [Hid]; omega
          have hXb : Hid (L.length ≤ 1073741824) := by show _ ≤ _; omega
          have HUa : Hid (Up w (wr.alloc (.cells #[.slice qa l.length qc] 33))) := HUw.out.alloc _
          go_upto_region 24 with (at_builtin; refine wpList_app el_mul rfl (.tmp 84) (.tmp 86) rfl w.heap.size _ _ _ (by rfl) HQa.out.own wr.heap.size [.slice qa l.length qc] (by rfl) rfl hHeap.out (by intro z hz; simp at hz; subst hz; rfl) hXb.out hBs.out ?_; intro g5 cap5 w5 hown5 hg5 hat5 hlt5; have HQ5 := hide (HQa.out.push (x := ⟨qa, qc, l⟩) HXa.out hg5 hown5); have HU5 : Hid (Up w w5) := Fr.up (S := fun _ => False) ((Fr.of_up HUa.out).grown hg5 fun z hz => .inr (own_lt HQa.out.own hz).1) (fun _ _ h => h); clear hown5 hg5 hat5 hlt5)
          have HMp : Hid ((Vd.insB cP L ⟨qa, qc, l⟩).map DcP.m = Vd.insB Vd.cmpP (L.map DcP.m) (Vd.polyD P)) := by
            rw [← HEl.out]; exact insB_map DcP.m Vd.cmpP _ _
          have HSx : Hid (l.length ≤ 1048576 ∧ ∀ r ∈ l.map DcV.r, r.length ≤ 1048576) := ⟨by omega, fun r hr => HZ.out.rd HPm.out (by rw [← HEl.out]; exact hr)⟩
          have HSz : Hid (∀ y ∈ L, y.m.length ≤ 1048576 ∧ ∀ r ∈ y.m, r.length ≤ 1048576) := fun y hy => by
            have h : y.m ∈ L.map DcP.m := List.mem_map_of_mem hy
            rw [HE.out] at h
            obtain ⟨p, hp, e⟩ := List.mem_map.1 ((Vd.sortD_perm Vd.cmpP _).mem_iff.1 h)
            have hp2 := List.mem_of_mem_take hp
            rw [← e]
            exact ⟨by rw [Vd.polyD_size]; exact HZ.out.poly p hp2, fun r hr => HZ.out.rd hp2 hr⟩
          obtain ⟨N, hN⟩ : ∃ N, N = L.length + 1 := ⟨_, rfl⟩
          rw [← hN] at HQ5 ⊢
          have hN2 : N ≤ 1048577 := by omega
          have HN := hide hN
          have j0 : IntKind.i64.wrap ((N : Int) - 1) = (L.length : Int) := by rw [wrap_id (by omega) (by omega)]; omega
          clear hN HQa HXa HUa hHeap hBs HX hXb
          go_wp2
          clear j0
          go_loopw [13] (fun i wr => ∃ (t : Nat) (A B : List DcP), i = .int .i64 t ∧ A.length = t ∧ t + 1 ≤ N ∧ Hid (∀ y ∈ A, y ∈ L) ∧ Hid (Up w wr) ∧ Hid (DcO w.heap.size wr (.slice (some ⟨g5, 0, none⟩) N cap5) (A ++ ⟨qa, qc, l⟩ :: B)) ∧ Hid (Vd.insB cP A ⟨qa, qc, l⟩ ++ B = Vd.insB cP L ⟨qa, qc, l⟩)) (fun i _ => (intOf i).toNat)
          case atStart => exact ⟨L.length, L, [], rfl, rfl, Nat.le_of_eq HN.out.symm, fun y hy => hy, HU5, HQ5, by rw [List.append_nil]; exact rfl⟩
          case round =>
            obtain ⟨t, A, B, rfl, hAt, htN, HAl, HU6, HQ6, HE6⟩ := hrel
            by_cases ht : 0 < t
            · have i6 : (0 : Int) < (t : Int) := by omega
              obtain ⟨A', y, rfl⟩ : ∃ A' y, A = A' ++ [y] := by
                rcases List.eq_nil_or_concat A with e | ⟨A', y, e⟩
                · rw [e] at hAt; simp at hAt; omega
                · exact ⟨A', y, by rw [e, List.concat_eq_append]⟩
              rw [List.length_append] at hAt
              obtain ⟨z, hz⟩ : ∃ z, A'.length = z := ⟨_, rfl⟩
              have hzt : t = z + 1 := by rw [← hAt, hz]; rfl
              rw [List.append_assoc] at HQ6
              have HQ6' : Hid (DcO w.heap.size wr (.slice (some ⟨g5, 0, none⟩) N cap5) (A' ++ y :: ⟨qa, qc, l⟩ :: B)) := HQ6.out
              have Ct : Hid (wr.cell? ⟨g5, t, none⟩ = some (.slice qa l.length qc)) := HQ6'.out.cell (i := t) (x := ⟨qa, qc, l⟩) (by rw [hzt, ← hz, List.getElem?_append_right (by omega), show A'.length + 1 - A'.length = 1 by omega]; rfl)
              have Cz : Hid (wr.cell? ⟨g5, z, none⟩ = some (.slice y.a y.l.length y.c)) := HQ6'.out.cell (i := z) (x := y) (by rw [← hz, List.getElem?_append_right (by omega), Nat.sub_self]; rfl)
              have Hyr := hide (HQ6'.out.ok y (by simp)).rd
              have Hxr := hide (HQ6'.out.ok ⟨qa, qc, l⟩ (by simp)).rd
              have Hyl := hide (HSz.out y (HAl.out y (by simp)))
              have HK1 : Hid (∀ g : Gr wr, Calls Tryz.prog 96 #[.slice qa l.length qc, .slice y.a y.l.length y.c] g.v fun e w' => e = .returned (.bool (decide (Vd.cmpP (l.map DcV.r) y.m < 0))) ∧ Up g.v w') := fun g => first_any Vd.cmpR_cmp.anti _ _ (l.map DcV.r) y.m _ (Hxr.out.up g.up) (Hyr.out.up g.up) (by rw [List.length_map]; exact HSx.out.1) Hyl.out.1 HSx.out.2 Hyl.out.2
              have HSw : Hid (∀ w7, Up wr w7 → DcO w.heap.size ((w7.setCell ⟨g5, t, none⟩ (.slice y.a y.l.length y.c)).setCell ⟨g5, z, none⟩ (.slice qa l.length qc)) (.slice (some ⟨g5, 0, none⟩) N cap5) (A' ++ ⟨qa, qc, l⟩ :: y :: B)) := fun w7 hu => by
                have := (HQ6'.out.up hu).swap
                rw [hz, ← hzt] at this
                exact this
              have HSn : Hid (Vd.insB cP (A' ++ [y]) ⟨qa, qc, l⟩ = if Vd.cmpP (l.map DcV.r) y.m < 0 then Vd.insB cP A' ⟨qa, qc, l⟩ ++ [y] else A' ++ [y] ++ [⟨qa, qc, l⟩]) := Vd.insB_snoc cP _ _ _
              have e0 := cell_gr Ct.out
              have f0 := cell_gr Cz.out
              have i7 : (0 : Int) ≤ (t : Int) := by omega
              have i8 : (t : Int) < (N : Int) := by omega
              have i9 : IntKind.i64.wrap ((t : Int) - 1) = (z : Int) := by rw [wrap_id (by omega) (by omega)]; omega
              have j1 : (0 : Int) ≤ (z : Int) := by omega
              have j2 : (z : Int) < (N : Int) := by omega
              have HZt := hide hzt
              have HAz := hide hz
              have hgl := hide (own_lt HQ6'.out.own (g := g5) rfl)
              try dsimp only at e0 f0
              clear hzt hz hAt
              go_upto_region 26 with fail
              refine wp_region_up (by kernel_rfl) (by kernel_rfl) ?_
              repeat (first | go_big_quiet_step ((go_at_call 96; exact Calls.up_of (HK1.out _))))
              refine wpQuiet_nil ?_
              rintro w7 ⟨⟨_, u7⟩, rfl⟩
              have HU7 := hide (HU6.out.trans u7)
              have HSw7 := hide (HSw.out w7 u7)
              have c0 := u7.cell Ct.out
              have c1 := u7.cell Cz.out
              have fz : ∀ i, w7.frozen? ⟨g5, i, none⟩ = false := fun i => own_frozen (HQ6'.out.up u7).own rfl i
              have HQ7 := hide (HQ6'.out.up u7)
              try dsimp only at c0 c1
              clear u7 e0 f0 HK1 HSw
              by_cases hc : Vd.cmpP (l.map DcV.r) y.m < 0
              · rw [decide_eq_true hc]
                rw [if_pos hc] at HSn
                clear hc
                have b1 : ∀ u, (w7.setCell ⟨g5, t, none⟩ u).cell? ⟨g5, z, none⟩ = some (.slice y.a y.l.length y.c) := fun u => by
                  have := HZt.out
                  rw [World.cell?_setCell_other _ _ _ _ (by simp <;> omega)]; exact c1
                have z1 : ∀ i u a1, (w7.setCell a1 u).frozen? ⟨g5, i, none⟩ = false := fun i u a1 => by rw [World.frozen?_setCell]; exact fz i
                have HUs : Hid (∀ u1 u2, Up w ((w7.setCell ⟨g5, t, none⟩ u1).setCell ⟨g5, z, none⟩ u2)) := fun u1 u2 => Up.setCell (Up.setCell HU7.out hgl.out.1 _) hgl.out.1 _
                go_wp2
                go_roundw
                case rel => exact ⟨z, A', y :: B, rfl, HAz.out, by have := HZt.out; omega, fun q hq => HAl.out q (List.mem_append_left _ hq), HUs.out _ _, HSw7.out, by have h := HE6.out; rw [HSn.out] at h; rw [← h, List.append_assoc]; exact rfl⟩
                case measure => have := HZt.out; simp [intOf]; omega
              · rw [decide_eq_false hc]
                rw [if_neg hc] at HSn
                clear hc
                have HQf : Hid (DcO w.heap.size w7 (.slice (some ⟨g5, 0, none⟩) N cap5) (Vd.insB cP L ⟨qa, qc, l⟩)) := by
                  have h := HE6.out
                  rw [HSn.out] at h
                  rw [← h]
                  have h2 := HQ7.out
                  show DcO _ _ _ _
                  simpa using h2
                replace HU6 := HU7
                go_wp2
                go_roundw
                case rel => exact ⟨L.length + 1, _, Vd.insB cP L ⟨qa, qc, l⟩, by go_num, rfl, by omega, insB_len _ _ _, HU6, HQf, HEn.out _ HMp.out⟩
                case measure => simp [intOf]; omega
            · have i6 : ¬ (0 : Int) < (t : Int) := by omega
              have HQf : Hid (DcO w.heap.size wr (.slice (some ⟨g5, 0, none⟩) N cap5) (Vd.insB cP L ⟨qa, qc, l⟩)) := by
                have h := HE6.out
                have e : A = [] := List.eq_nil_of_length_eq_zero (by omega)
                subst e
                rw [← h]
                exact HQ6.out
              go_wp2
              go_roundw
              case rel => exact ⟨L.length + 1, _, Vd.insB cP L ⟨qa, qc, l⟩, by go_num, rfl, by omega, insB_len _ _ _, HU6, HQf, HEn.out _ HMp.out⟩
              case measure => simp [intOf]; omega
    · have i2 : ¬ (L.length : Int) < (m.length : Int) := by omega
      have HEf : Hid (L.map DcP.m = Vd.canonD m) := by have h := HE.out; rw [show L.length = m.length by omega, List.take_length] at h; exact h
      obtain ⟨ua, uc, rfl⟩ := own_len HQ.out.own
      go_wp2
      go_ret
      exact ⟨_, rfl, HU.out, L, HQ.out, HEf.out⟩
end Go.Proofs.YtcclepohmhdpbaaGreatDoor
