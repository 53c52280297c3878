/- THE DOCUMENT's WALKS: cut. -/
import Derived.Test.YtcclepohmhdpbaaGreatDoorRfL
namespace Go.Proofs.YtcclepohmhdpbaaGreatDoor
set_option linter.all false
open Go.RowKit Go.Deep

theorem dropLast_at {r : Ring} {q : Nat} {p : Pnt} (h : q + 1 < r.length) (hp : r[q]? = some p) : r.dropLast[q]? = some p := by
  rw [List.getElem?_dropLast, if_pos (by omega)]; exact hp
theorem in_take {T : List Pnt} {t : Nat} {a : Pnt} {p : Pnt} (h : T[t]? = some a) : decide (p ∈ T.take (t + 1)) = (decide (p ∈ T.take t) || decide (a = p)) := by
  rw [Pl.take_one h]
  apply Bool.eq_iff_iff.2
  simp only [decide_eq_true_eq, Bool.or_eq_true, List.mem_append, List.mem_singleton]
  constructor
  · rintro (h | h); exact .inl h; exact .inr h.symm
  · rintro (h | h); exact .inl h; exact .inr h.symm

theorem tabM_out {M : List (List Bool)} {r k : Nat} (h : M.length ≤ r) : tabM M r k = false := by unfold tabM; rw [List.getElem?_eq_none h]; rfl
theorem tabM_far {M : List (List Bool)} {r k n : Nat} (hr : ∀ (i : Nat) (m : List Bool), M[i]? = some m → m.length = n) (h : n ≤ k) : tabM M r k = false := by
  unfold tabM
  cases hm : M[r]? with
  | none => rfl
  | some m => simp [List.getElem?_eq_none (show m.length ≤ k by rw [hr r m hm]; exact h)]
theorem HT.width {base : Nat} {w : World} {hv : Value} {bs : List Nat} {M : List (List Bool)} {n : Nat} (h : HT base w hv bs M n) : ∀ (i : Nat) (m : List Bool), M[i]? = some m → m.length = n := fun i m hm => by
  obtain ⟨_, _, _, _, _, _, e, _⟩ := h.blk hm; exact e
theorem touchT_no {M : List (List Bool)} {r k t : Nat} (h : touchT M r k t = false) (ht : M.length ≤ t) : ∀ s, s ≠ r → tabM M s k = false := by
  intro s hs
  by_cases c : s < t
  · cases q : tabM M s k with
    | false => rfl
    | true =>
      have := Vd.anyI_true (f := fun s => decide (s ≠ r) && tabM M s k) c (by simp [hs, q])
      unfold touchT at h
      rw [h] at this; cases this
  · exact tabM_out (by omega)
theorem touchT_yes {M : List (List Bool)} {r k : Nat} : ∀ {t : Nat}, touchT M r k t = true → ∃ s, s ≠ r ∧ tabM M s k = true
  | 0, h => by cases h
  | t + 1, h => by
    rw [touchT_succ, Bool.or_eq_true, Bool.and_eq_true] at h
    rcases h with h | ⟨h1, h2⟩
    · exact touchT_yes h
    · exact ⟨t, of_decide_eq_true h1, h2⟩

set_option maxRecDepth 8000 in
set_option maxHeartbeats 16000000 in
theorem cut_any (v : Value) (l : Poly) (w : World) (hv : Rd2 w v l) (hl : l.length ≤ 1048576) (hl2 : ∀ r ∈ l, r.length ≤ 1048576) (hf : l.flatten.length ≤ 1048576) (hc : Vd.CdL l) (hsh : ∀ r ∈ l, Vd.Shut r) :
    Calls Tryz.prog 127 #[v] w fun e w' => ∃ b, e = .returned (.bool b) ∧ (b = true ↔ Vd.docCore l) ∧ Up w w' := by
  have HV := hide hv
  obtain ⟨ao, cap, rfl, hm⟩ := hv
  have HM := hide hm
  have HC := hide hc
  have HL := hide hl2
  have HF := hide hf
  have HS := hide hsh
  clear hm hc hl2 hf hsh
  go_enter Tryz.func127, Tryz.ntmps127
  go_wp2
  go_loopw [3, 4] (fun av i wr => ∃ (k : Nat) (u : Value), i = .int .i64 k ∧ u = av ∧ k ≤ l.length ∧ Hid (Up w wr) ∧ Hid (wr.ownsRow w.heap.size 32 2 u (onceL (heads (l.take k))).length (flat (onceL (heads (l.take k)))))) (fun _ i _ => l.length - (intOf i).toNat)
  case atStart => exact ⟨0, _, rfl, rfl, Nat.zero_le _, Up.refl _, World.ownsRow_nil _ _ _ _⟩
  case round =>
    obtain ⟨k, u, rfl, rfl, hk, HU, HO⟩ := hrel
    by_cases hlt : k < l.length
    · obtain ⟨r, hr⟩ := Pl.some_of_lt hlt
      obtain ⟨b, y, rfl, cu, hy⟩ := HM.out k r hr
      obtain ⟨ao2, cap2, rfl, hp⟩ := hy
      have HP := hide hp
      have CU := hide cu
      have hrl := HL.out r (Pl.mem_of_some hr)
      have HFl := hide (heads_take hr)
      have HFb : Hid ((heads (l.take k)).length + r.length ≤ 2097152) := by
        have h1 := heads_len (l.take k)
        have h2 : (l.take k).flatten.length ≤ l.flatten.length := by
          conv => rhs; rw [← List.take_append_drop k l, List.flatten_append, List.length_append]
          omega
        have := HF.out
        show _ ≤ _
        omega
      have i1 : (0 : Int) ≤ (k : Int) := by omega
      have i2 : (k : Int) < (l.length : Int) := by omega
      clear hr cu hp
      go_wp2
      go_loopw [3, 5] (fun av i wr => ∃ (q : Nat) (u : Value), i = .int .i64 q ∧ u = av ∧ q ≤ r.length ∧ Hid (Up w wr) ∧ Hid (wr.ownsRow w.heap.size 32 2 u (onceL (heads (l.take k) ++ r.dropLast.take q)).length (flat (onceL (heads (l.take k) ++ r.dropLast.take q))))) (fun _ i _ => r.length - (intOf i).toNat)
      case atStart => exact ⟨0, _, rfl, rfl, Nat.zero_le _, HU, by rw [List.take_zero, List.append_nil]; exact HO⟩
      case round =>
        clear HU HO
        obtain ⟨q, u, rfl, rfl, hq, HU, HO⟩ := hrel
        have cu2 := HU.out.cell CU.out
        try dsimp only at cu2
        by_cases hlq : q + 1 < r.length
        · obtain ⟨⟨px, py⟩, hxy⟩ := Pl.some_of_lt (show q < r.length by omega)
          obtain ⟨b2, rfl, cx, cy⟩ := HP.out q (px, py) hxy
          have cx' := HU.out.cell cx
          have cy' := HU.out.cell cy
          try dsimp only at cx' cy'
          have HX : Hid (onceL (heads (l.take k) ++ r.dropLast.take (q + 1)) = onceF (onceL (heads (l.take k) ++ r.dropLast.take q)) (px, py)) := by
            rw [Pl.take_one (dropLast_at hlq hxy), ← List.append_assoc, onceL_snoc]; exact rfl
          have hal : (onceL (heads (l.take k) ++ r.dropLast.take q)).length ≤ 2097152 := by
            have h1 := onceL_len (heads (l.take k) ++ r.dropLast.take q)
            have h2 := HFb.out
            simp only [List.length_append, List.length_take, List.length_dropLast] at h1
            omega
          generalize hT : onceL (heads (l.take k) ++ r.dropLast.take q) = T at *
          obtain ⟨ta, tc, e3, hmm⟩ := own_rd1 HO.out
          obtain ⟨ta', tc', rfl⟩ := own_len HO.out
          simp only [Value.slice.injEq] at e3
          obtain ⟨rfl, -, rfl⟩ := e3
          have HMM := hide hmm
          have i3 : (0 : Int) ≤ (q : Int) := by omega
          have i4 : (q : Int) < (r.length : Int) := by omega
          have i5 : (q : Int) + 1 < (r.length : Int) := by omega
          obtain ⟨wo, hwo⟩ : ∃ wo : World, wo = wr := ⟨_, rfl⟩
          subst hwo
          clear hxy cx cy hT hmm
          go_wp2
          go_loopw [6, 7] (fun iv j wq => ∃ t : Nat, j = .int .i64 t ∧ iv = .bool (decide ((px, py) ∈ T.take t)) ∧ t ≤ T.length ∧ Hid (Up wo wq)) (fun _ j _ => T.length - (intOf j).toNat)
          case atStart => exact ⟨0, rfl, by simp, Nat.zero_le _, Up.refl _⟩
          case round =>
            obtain ⟨t, rfl, rfl, ht, HUq⟩ := hrel
            by_cases hlt2 : t < T.length
            · obtain ⟨⟨qx, qy⟩, hq2⟩ := Pl.some_of_lt hlt2
              obtain ⟨g2, rfl, d0, d1⟩ := HMM.out t (qx, qy) hq2
              have HI := hide (in_take (p := (px, py)) hq2)
              generalize decide ((px, py) ∈ T.take t) = B at *
              have i6 : (0 : Int) ≤ (t : Int) := by omega
              have i7 : (t : Int) < (T.length : Int) := by omega
              have f0 := HUq.out.cell cx'
              have f1 := HUq.out.cell cy'
              have f2 := HUq.out.cell cu2
              have g0 := HUq.out.cell d0
              have g1 := HUq.out.cell d1
              try dsimp only at g0 g1
              clear hq2 d0 d1 cx' cy' cu2
              cases B
              · by_cases h1 : qx = px
                · by_cases h2 : qy = py
                  · subst h1 h2
                    have HI2 : Hid (decide ((qx, qy) ∈ T.take (t + 1)) = true) := by rw [HI.out]; simp [Hid]
                    go_wp2
                    go_quiet (fail)
                    go_wp2
                    go_roundw
                    case rel => exact ⟨t + 1, by go_num, by rw [HI2.out], by omega, HUq.out.drewN _⟩
                    case measure => simp [intOf]; omega
                  · have HI2 : Hid (decide ((px, py) ∈ T.take (t + 1)) = false) := by rw [HI.out]; simp [h2, Hid]
                    subst h1
                    have h2' := beq_eq_false_iff_ne.2 h2
                    go_wp2
                    go_quiet (fail)
                    go_wp2
                    go_roundw
                    case rel => exact ⟨t + 1, by go_num, by rw [HI2.out], by omega, HUq.out.drewN _⟩
                    case measure => simp [intOf]; omega
                · have HI2 : Hid (decide ((px, py) ∈ T.take (t + 1)) = false) := by rw [HI.out]; simp [h1, Hid]
                  have h1' := beq_eq_false_iff_ne.2 h1
                  go_wp2
                  go_quiet (fail)
                  go_wp2
                  go_roundw
                  case rel => exact ⟨t + 1, by go_num, by rw [HI2.out], by omega, HUq.out.drewN _⟩
                  case measure => simp [intOf]; omega
              · have HI2 : Hid (decide ((px, py) ∈ T.take (t + 1)) = true) := by rw [HI.out]; simp [Hid]
                go_wp2
                go_quiet (fail)
                go_wp2
                go_roundw
                case rel => exact ⟨t + 1, by go_num, by rw [HI2.out], by omega, HUq.out.drewN _⟩
                case measure => simp [intOf]; omega
            · have ht2 : t = T.length := by omega
              subst ht2
              rw [List.take_length]
              have HO2 := hide (own_up HO.out HUq.out)
              have HU2 := hide (HU.out.trans HUq.out)
              have f0 := HUq.out.cell cx'
              have f1 := HUq.out.cell cy'
              have f2 := HUq.out.cell cu2
              clear cx' cy' cu2
              by_cases hin : (px, py) ∈ T
              · have HE := hide (HX.out.trans (show onceF T (px, py) = T from if_pos hin))
                rw [decide_eq_true hin]
                go_wp2
                go_roundw
                case rel => exact ⟨q + 1, _, by go_num, rfl, by omega, HU2, by rw [HE.out]; exact HO2⟩
                case measure => simp [intOf]; omega
              · have HE := hide (HX.out.trans (show onceF T (px, py) = T ++ [(px, py)] from if_neg hin))
                rw [decide_eq_false hin]
                have HOA := hide (HO2.out.alloc (.cells #[.int .i64 px, .int .i64 py] 32))
                have hb : Hid (T.length ≤ 1073741824) := by show _ ≤ _; omega
                have hsz := hide HU2.out.size
                go_wp2_with (at_builtin; refine wpList_app el_pts rfl (.tmp 62) (.tmp 70) rfl w.heap.size _ _ _ (by rfl) HOA.out wr.heap.size [.int .i64 px, .int .i64 py] (by rfl) rfl (heap_alloc_new wr _) (by intro x hx; simp at hx; rcases hx with rfl | rfl <;> rfl) hb.out (by simp; have := hsz.out; omega) ?_; intro g cap w5 hown5 hg5 hat5 hlt5; replace hown5 := hide hown5; replace hg5 := hide hg5; clear hat5 hlt5)
                go_roundw
                case rel =>
                  refine ⟨q + 1, _, by go_num, rfl, by omega, ?_, ?_⟩
                  · exact Fr.up (S := fun _ => False) (((Fr.of_up HU2.out).alloc _).grown hg5.out fun x hx => .inr (own_lt HOA.out hx).1) (fun _ _ h => h)
                  · rw [HE.out, flat_append, List.length_append]; exact hown5.out
                case measure => simp [intOf]; omega
        · have HE : Hid (heads (l.take k) ++ r.dropLast.take q = heads (l.take (k + 1))) := by
            have e : r.dropLast.take q = r.dropLast := List.take_of_length_le (by rw [List.length_dropLast]; omega)
            rw [HFl.out, e]; exact rfl
          rw [HE.out] at HO
          go_wp2
          go_roundw
          case rel => exact ⟨k + 1, _, by go_num, rfl, by omega, HU, HO⟩
          case measure => simp [intOf]; omega
    · have hk2 : k = l.length := by omega
      subst hk2
      rw [List.take_length] at HO
      have HTn := hide (onceL_nodup (heads l))
      have HTm : Hid (∀ p, p ∈ onceL (heads l) ↔ p ∈ l.flatten) := fun p => by rw [mem_onceL, mem_heads HS.out]
      have hTl : (onceL (heads l)).length ≤ 1048576 := by have h1 := onceL_len (heads l); have h2 := heads_len l; have h3 := HF.out; omega
      generalize onceL (heads l) = T at *
      have HTc : Hid (∀ p ∈ T, Vd.Cd p) := fun p hp => by
        obtain ⟨r, hr, hpr⟩ := List.mem_flatten.1 ((HTm.out p).1 hp)
        exact HC.out r hr p hpr
      obtain ⟨ta, tc, e3, hmm⟩ := own_rd1 HO.out
      obtain ⟨ta', tc', rfl⟩ := own_len HO.out
      simp only [Value.slice.injEq] at e3
      obtain ⟨rfl, -, rfl⟩ := e3
      have HMM := hide hmm
      obtain ⟨wo, hwo⟩ : ∃ wo : World, wo = wr := ⟨_, rfl⟩
      subst hwo
      clear hmm HO hlt
      go_wp2
      go_loopw [8, 9] (fun hx i wr => ∃ (j : Nat) (h : Value) (bs : List Nat), i = .int .i64 j ∧ h = hx ∧ j ≤ l.length ∧ Hid (Up wo wr) ∧ Hid (HT wo.heap.size wr h bs ((l.take j).map (rowOf T)) T.length)) (fun _ i _ => l.length - (intOf i).toNat)
      case atStart => exact ⟨0, _, [], rfl, rfl, Nat.zero_le _, Up.refl _, HT.nil _ _ _⟩
      case round =>
        obtain ⟨j, hx, bs, rfl, rfl, hj, HUo, HH⟩ := hrel
        by_cases hlj : j < l.length
        · obtain ⟨r, hr⟩ := Pl.some_of_lt hlj
          obtain ⟨b0, y, rfl, cu, hy⟩ := HM.out j r hr
          obtain ⟨ao2, cap2, rfl, hp⟩ := hy
          have HRr : Hid (Rd1 w (.slice ao2 r.length cap2) r) := ⟨ao2, cap2, rfl, hp⟩
          have CU := hide (HU.out.cell cu)
          have hrl := HL.out r (Pl.mem_of_some hr)
          have HrC := hide (HC.out r (Pl.mem_of_some hr))
          have HFl : Hid ((l.take (j + 1)).map (rowOf T) = (l.take j).map (rowOf T) ++ [rowOf T r]) := by rw [Pl.take_one hr, List.map_append]; exact rfl
          have hmk := make_bools T.length (by omega)
          obtain ⟨wp, hwp⟩ : ∃ wp : World, wp = wr := ⟨_, rfl⟩
          subst hwp
          have RB : Hid (VRow (wp.alloc (.cells (bools (List.replicate T.length false)).toArray 4)) wp.heap.size 4 (bools (fillR (rowOf T r) 0))) := by
            rw [fillR_zero, show (rowOf T r).length = T.length by simp [rowOf]]; exact VRow.new wp _ _
          have HUp : Hid (Up wp (wp.alloc (.cells (bools (List.replicate T.length false)).toArray 4))) := (Up.refl _).alloc _
          have i1 : (0 : Int) ≤ (j : Int) := by omega
          have i2 : (j : Int) < (l.length : Int) := by omega
          clear cu hp hr
          go_wp2
          obtain ⟨B, hB⟩ : ∃ B, wp.heap.size = B := ⟨_, rfl⟩
          rw [hB] at RB ⊢
          have HB := hide hB
          generalize wp.alloc (.cells (bools (List.replicate T.length false)).toArray 4) = W0 at *
          clear hmk hB
          go_loopw [11] (fun i wq => ∃ t : Nat, i = .int .i64 t ∧ t ≤ T.length ∧ Hid (Up wp wq) ∧ Hid (VRow wq B 4 (bools (fillR (rowOf T r) t)))) (fun i _ => T.length - (intOf i).toNat)
          case atStart => exact ⟨0, rfl, Nat.zero_le _, HUp, RB⟩
          case round =>
            clear HUp RB
            obtain ⟨t, rfl, ht, HUq, RB⟩ := hrel
            by_cases hlt2 : t < T.length
            · obtain ⟨⟨px, py⟩, hq2⟩ := Pl.some_of_lt hlt2
              obtain ⟨g2, rfl, d0, d1⟩ := HMM.out t (px, py) hq2
              have HCp := hide (HTc.out _ (Pl.mem_of_some hq2))
              obtain ⟨I, hI⟩ : ∃ I, Vd.inRing r (Vd.at1 (px, py)) = I := ⟨_, rfl⟩
              have HAt := hide (rowOf_at (r := r) hq2)
              rw [hI] at HAt
              have HK : Hid (∀ g : Gr wr, Calls Tryz.prog 164 #[.slice ao2 r.length cap2, .agg #[.int .i64 px, .int .i64 py], .int .i64 1] g.v fun e w' => e = .returned (.int .i64 I) ∧ Up g.v w') := fun g =>
                inRing_is (p := Vd.at1 (px, py)) hI ((HRr.out.up (HU.out.trans (HUo.out.trans HUq.out))).up g.up) hrl HrC.out (Vd.at1_sp HCp.out)
              have s0 := cell_gr ((HUo.out.trans HUq.out).cell CU.out)
              have s1 := cell_gr ((HUo.out.trans HUq.out).cell d0)
              have s2 := cell_gr ((HUo.out.trans HUq.out).cell d1)
              try dsimp only at s0 s1 s2
              have i3 : (0 : Int) ≤ (t : Int) := by omega
              have i4 : (t : Int) < (T.length : Int) := by omega
              have HFa := hide (bools_at (fillR_at (m := rowOf T r) (t := t) (by simp [rowOf]; exact hlt2)))
              clear hq2 d0 d1 hI
              go_wp2_with fail
              refine wp_region_up (by kernel_rfl) (by kernel_rfl) ?_
              repeat (first | go_big_quiet_step ((go_at_call 164; exact Calls.up_of (HK.out _))))
              refine wpQuiet_nil ?_
              rintro w3 ⟨⟨_, u3⟩, rfl⟩
              have HU3 := hide (HUq.out.trans u3)
              have RB3 := hide (RB.out.up u3)
              have k0 := RB3.out.cell HFa.out
              have kf := fun i => RB3.out.frozen i
              have hBs : Hid (wp.heap.size ≤ B) := Nat.le_of_eq HB.out
              clear u3 s0 s1 s2 HK
              by_cases h0 : I = 0
              · have HAt2 : Hid ((rowOf T r)[t]? = some true) := by rw [HAt.out, decide_eq_true h0]; exact rfl
                subst h0
                go_wp2
                go_roundw
                case rel => exact ⟨t + 1, by go_num, by omega, HU3.out.setCell hBs.out _, by rw [← fillR_set HAt2.out, bools_set]; exact RB3.out.set t _⟩
                case measure => simp [intOf]; omega
              · have HAt2 : Hid ((rowOf T r)[t]? = some false) := by rw [HAt.out, decide_eq_false h0]; exact rfl
                have h0' := beq_eq_false_iff_ne.2 h0
                go_wp2
                go_roundw
                case rel => exact ⟨t + 1, by go_num, by omega, HU3.out.setCell hBs.out _, by rw [← fillR_set HAt2.out, bools_set]; exact RB3.out.set t _⟩
                case measure => simp [intOf]; omega
            · have ht2 : t = T.length := by omega
              subst ht2
              have hrl2 : (rowOf T r).length = T.length := by simp [rowOf]
              rw [← hrl2, fillR_all] at RB
              have HHq := hide (HH.out.up HUq.out)
              have HUr := hide (HUo.out.trans HUq.out)
              have HBn : Hid (B ∉ bs) := by have := HH.out.new; rw [HB.out] at this; exact this
              have hBs : Hid (wo.heap.size ≤ B) := by have := HUo.out.size; have := HB.out; show _ ≤ _; omega
              have hbl : Hid (bs.length ≤ 1073741824) := by have := HH.out.len; simp only [List.length_map, List.length_take] at this; show _ ≤ _; omega
              obtain ⟨ha, hcap, rfl⟩ := own_len HHq.out.own
              have HOA := hide (HHq.out.own.alloc (.cells #[.slice (some ⟨B, 0, none⟩) T.length T.length] 196))
              have hsz := hide HUr.out.size
              go_wp2_with (at_builtin; refine wpList_app el_boolss rfl (.tmp 101) (.tmp 103) rfl wo.heap.size _ _ _ (by rfl) HOA.out wr.heap.size (rowV T.length B) (by rfl) rfl (heap_alloc_new wr _) (by intro x hx; simp [rowV] at hx; subst hx; rfl) hbl.out (by simp; have := hsz.out; omega) ?_; intro g cap w5 hown5 hg5 hat5 hlt5; replace hown5 := hide hown5; replace hg5 := hide hg5; clear hat5 hlt5)
              go_roundw
              case rel =>
                refine ⟨j + 1, _, bs ++ [B], by go_num, rfl, by omega, ?_, ?_⟩
                · exact Fr.up (S := fun _ => False) (((Fr.of_up HUr.out).alloc _).grown hg5.out fun x hx => .inr (own_lt HOA.out hx).1) (fun _ _ h => h)
                · rw [HFl.out]
                  exact (HHq.out.up ((Up.refl wr).alloc _)).push (RB.out.alloc _) hrl2 hBs.out HBn.out hg5.out hown5.out
              case measure => simp [intOf]; omega
        · have hj2 : j = l.length := by omega
          subst hj2
          rw [List.take_length] at HH
          have HT0 : Hid (tabM (l.map (rowOf T)) = Vd.tab0 l T) := by
            funext s k
            unfold tabM Vd.tab0
            rw [List.getElem?_map]
            by_cases c : s < l.length
            · obtain ⟨r, hr⟩ := Pl.some_of_lt c
              have er : Vd.rAt l s = r := by unfold Vd.rAt; rw [List.getD_eq_getElem?_getD, hr]; rfl
              rw [hr, er]
              simp only [Option.map_some, Option.bind_some]
              cases hk : T[k]? with
              | none => simp [rowOf, hk]
              | some p => simp [rowOf, hk, c]
            · rw [List.getElem?_eq_none (by omega)]
              cases hk : T[k]? with
              | none => simp
              | some p => simp [c]
          have HTh : Hid (Vd.Thin (Vd.tab0 l T) (tabM (l.map (rowOf T)))) := by rw [HT0.out]; exact Vd.Thin.refl _
          have hMl : (l.map (rowOf T)).length = l.length := by simp
          generalize l.map (rowOf T) = M0 at *
          obtain ⟨ha, hcap, rfl⟩ := HH.out.shape
          rw [hMl] at HH ⊢
          have hMl' := hide hMl
          clear hMl HT0
          go_wp2
          go_loopg [14] (cnt M0 + 2) (fun n mv wr => ∃ (more : Bool) (M : List (List Bool)), mv = .bool more ∧ Hid (Up wo wr) ∧ Hid (HT wo.heap.size wr (.slice ha l.length hcap) bs M T.length) ∧ Hid (M.length = l.length) ∧ Hid (Vd.Thin (Vd.tab0 l T) (tabM M)) ∧ Hid (cnt M + (if more = true then 1 else 0) ≤ n) ∧ Hid (more = false → Vd.Upto (tabM M) l.length))
          case atStart => exact ⟨true, M0, rfl, HUo, HH, hMl', HTh, by simp [Hid], by simp [Hid]⟩
          case round =>
            clear HUo HH hMl' HTh
            obtain ⟨more, Mp, rfl, HUo, HH, HLen, HTh, HN, HUp⟩ := hrel
            cases more
            · have HFin : Hid ((∃ r k, tabM Mp r k = true) ↔ Vd.docCore l) := by
                show _ ↔ _
                rw [Vd.docCore_tab HTn.out HTm.out]
                refine HTh.out.done ?_ ?_
                · intro r k h
                  rcases Nat.lt_or_ge r l.length with q | q
                  · exact (HUp.out rfl r q).1 k h
                  · rw [tabM_out (by rw [HLen.out]; exact q)] at h; cases h
                · intro r k h
                  rcases Nat.lt_or_ge r l.length with q | q
                  · exact (HUp.out rfl r q).2 k h
                  · rw [tabM_out (by rw [HLen.out]; exact q)] at h; cases h
              clear HUp HTh HN
              go_wp2
              go_loopw [21] (fun i wr => ∃ r : Nat, i = .int .i64 r ∧ r ≤ l.length ∧ Hid (Up wo wr) ∧ Hid (HT wo.heap.size wr (.slice ha l.length hcap) bs Mp T.length) ∧ Hid (∀ s j, s < r → tabM Mp s j = false)) (fun i _ => l.length - (intOf i).toNat)
              case atStart => exact ⟨0, rfl, Nat.zero_le _, HUo, HH, fun s j h => absurd h (by omega)⟩
              case round =>
                clear HUo HH
                obtain ⟨r, rfl, hr, HUo, HH, HZ⟩ := hrel
                by_cases hlr : r < l.length
                · have i1 : (0 : Int) ≤ (r : Int) := by omega
                  have i2 : (r : Int) < (l.length : Int) := by omega
                  go_wp2
                  go_loopw [22] (fun i wr => ∃ k : Nat, i = .int .i64 k ∧ k ≤ T.length ∧ Hid (Up wo wr) ∧ Hid (HT wo.heap.size wr (.slice ha l.length hcap) bs Mp T.length) ∧ Hid (∀ j, j < k → tabM Mp r j = false)) (fun i _ => T.length - (intOf i).toNat)
                  case atStart => exact ⟨0, rfl, Nat.zero_le _, HUo, HH, fun j h => absurd h (by omega)⟩
                  case round =>
                    clear HUo HH
                    obtain ⟨k, rfl, hk, HUo, HH, HY⟩ := hrel
                    by_cases hlk : k < T.length
                    · obtain ⟨mr, hmr⟩ := Pl.some_of_lt (show r < Mp.length by have := HLen.out; omega)
                      obtain ⟨br, gr, capr, hbr, er, cr, hlenr, hrowr, hlowr⟩ := HH.out.blk hmr
                      rw [HLen.out] at er
                      simp only [Value.slice.injEq] at er
                      obtain ⟨rfl, -, rfl⟩ := er
                      obtain ⟨x, hx⟩ := Pl.some_of_lt (show k < mr.length by omega)
                      have HX := hide (tabM_at hmr hx)
                      have i3 : (0 : Int) ≤ (k : Int) := by omega
                      have i4 : (k : Int) < (T.length : Int) := by omega
                      have ckx := hrowr.cell (bools_at hx)
                      clear hmr hx hrowr hbr hlowr
                      cases x
                      · go_wp2
                        go_roundw
                        case rel =>
                          refine ⟨k + 1, by go_num, by omega, HUo, HH, fun j hj => ?_⟩
                          by_cases e : j = k
                          · rw [e]; exact HX.out
                          · exact HY.out j (by omega)
                        case measure => simp [intOf]; omega
                      · go_wp2
                        go_ret
                        exact ⟨true, rfl, ⟨fun _ => HFin.out.1 ⟨r, k, HX.out⟩, fun _ => rfl⟩, HU.out.trans HUo.out⟩
                    · have HZ2 : Hid (∀ s j, s < r + 1 → tabM Mp s j = false) := fun s j hs => by
                        by_cases e : s = r
                        · subst e
                          rcases Nat.lt_or_ge j T.length with q | q
                          · exact HY.out j (by omega)
                          · exact tabM_far HH.out.width q
                        · exact HZ.out s j (by omega)
                      go_wp2
                      go_roundw
                      case rel => exact ⟨r + 1, by go_num, by omega, HUo, HH, HZ2⟩
                      case measure => simp [intOf]; omega
                · have HNo : Hid (¬ Vd.docCore l) := fun h => by
                    obtain ⟨s, j, e⟩ := HFin.out.2 h
                    rcases Nat.lt_or_ge s l.length with q | q
                    · rw [HZ.out s j (by omega)] at e; cases e
                    · rw [tabM_out (by rw [HLen.out]; exact q)] at e; cases e
                  go_wp2
                  go_ret
                  exact ⟨false, rfl, ⟨fun h => absurd h (by simp), fun h => absurd h HNo.out⟩, HU.out.trans HUo.out⟩
            · clear HUp
              go_wp2
              go_loopw [14, 15] (fun mv i wr => ∃ (more : Bool) (r : Nat) (M : List (List Bool)), mv = .bool more ∧ i = .int .i64 r ∧ r ≤ l.length ∧ Hid (Up wo wr) ∧ Hid (HT wo.heap.size wr (.slice ha l.length hcap) bs M T.length) ∧ Hid (M.length = l.length) ∧ Hid (Vd.Thin (Vd.tab0 l T) (tabM M)) ∧ Hid (more = true → cnt M < cnt Mp) ∧ Hid (more = false → M = Mp ∧ Vd.Upto (tabM M) r)) (fun _ i _ => l.length - (intOf i).toNat)
              case atStart => exact ⟨false, 0, Mp, rfl, rfl, Nat.zero_le _, HUo, HH, HLen, HTh, by simp [Hid], fun _ => ⟨rfl, fun s h => absurd h (by omega)⟩⟩
              case round =>
                clear HUo HH HLen HTh
                obtain ⟨more, r, M, rfl, rfl, hr, HUo, HH, HLen, HTh, Hm1, Hm0⟩ := hrel
                by_cases hlr : r < l.length
                · have i1 : (0 : Int) ≤ (r : Int) := by omega
                  have i2 : (r : Int) < (l.length : Int) := by omega
                  go_wp2
                  go_loopw [14, 16, 17, 18] (fun mv nv av kv wr => ∃ (more : Bool) (n a k : Nat) (M : List (List Bool)), mv = .bool more ∧ nv = .int .i64 n ∧ av = .int .i64 a ∧ kv = .int .i64 k ∧ k ≤ T.length ∧ Hid (Up wo wr) ∧ Hid (HT wo.heap.size wr (.slice ha l.length hcap) bs M T.length) ∧ Hid (M.length = l.length) ∧ Hid (Vd.Thin (Vd.tab0 l T) (tabM M)) ∧ Hid (more = true → cnt M < cnt Mp) ∧ Hid (more = false → M = Mp ∧ Vd.Upto (tabM M) r ∧ Vd.Shared (tabM M) r k) ∧ Hid (Vd.NA (tabM M r) k n a)) (fun _ _ _ kv _ => T.length - (intOf kv).toNat)
                  case atStart => exact ⟨more, 0, 0, 0, M, rfl, rfl, rfl, rfl, Nat.zero_le _, HUo, HH, HLen, HTh, Hm1, fun h => ⟨(Hm0.out h).1, (Hm0.out h).2, Vd.shared_zero _ _⟩, Vd.NA.start _⟩
                  case round =>
                    clear HUo HH HLen HTh Hm1 Hm0
                    obtain ⟨more, n, a, k, M, rfl, rfl, rfl, rfl, hk, HUo, HH, HLen, HTh, Hm1, Hm0, HNA⟩ := hrel
                    have hna := HNA.out.le
                    by_cases hlk : k < T.length
                    · obtain ⟨mr, hmr⟩ := Pl.some_of_lt (show r < M.length by have := HLen.out; omega)
                      obtain ⟨br, gr, capr, hbr, er, cr, hlenr, hrowr, hlowr⟩ := HH.out.blk hmr
                      rw [HLen.out] at er
                      simp only [Value.slice.injEq] at er
                      obtain ⟨rfl, -, rfl⟩ := er
                      obtain ⟨x, hx⟩ := Pl.some_of_lt (show k < mr.length by omega)
                      have HX := hide (tabM_at hmr hx)
                      have HRow := hide hrowr
                      have Hbr := hide hbr
                      have Hmr := hide hmr
                      have Hxk := hide hx
                      have Hlow := hide hlowr
                      have i3 : (0 : Int) ≤ (k : Int) := by omega
                      have i4 : (k : Int) < (T.length : Int) := by omega
                      have ckx := hrowr.cell (bools_at hx)
                      have ckf := fun i => hrowr.frozen i
                      obtain ⟨wk, hwk⟩ : ∃ wk : World, wk = wr := ⟨_, rfl⟩
                      subst hwk
                      clear hmr hx hrowr hbr hlowr
                      go_wp2
                      go_loopw [19, 20] (fun tv sv wr => ∃ t : Nat, sv = .int .i64 t ∧ tv = .bool (touchT M r k t) ∧ t ≤ l.length ∧ wr = wk) (fun _ sv _ => l.length - (intOf sv).toNat)
                      case atStart => exact ⟨0, rfl, rfl, Nat.zero_le _, rfl⟩
                      case round =>
                        obtain ⟨t, rfl, rfl, ht, rfl⟩ := hrel
                        by_cases hlt2 : t < l.length
                        · obtain ⟨mt, hmt⟩ := Pl.some_of_lt (show t < M.length by have := HLen.out; omega)
                          obtain ⟨bt, gt, capt, hbt, et, ct, hlent, hrowt, -⟩ := HH.out.blk hmt
                          rw [HLen.out] at et
                          simp only [Value.slice.injEq, Option.some.injEq, Addr.mk.injEq] at et
                          obtain ⟨⟨rfl, -, -⟩, -, -⟩ := et
                          obtain ⟨y, hy⟩ := Pl.some_of_lt (show k < mt.length by omega)
                          have cky := hrowt.cell (bools_at hy)
                          have HTt := hide (touchT_succ M r k t)
                          rw [tabM_at hmt hy] at HTt
                          generalize touchT M r k t = B at *
                          have i5 : (0 : Int) ≤ (t : Int) := by omega
                          have i6 : (t : Int) < (l.length : Int) := by omega
                          clear hmt hy hbt hrowt
                          cases B
                          · by_cases htr : t = r
                            · have HT2 : Hid (touchT M r k (t + 1) = false) := by rw [HTt.out]; simp [htr, Hid]
                              have j1 : ((t : Int) != (r : Int)) = false := by rw [htr]; simp
                              have j2 : ((t : Int) == (r : Int)) = true := by rw [htr]; simp
                              clear htr
                              go_wp2
                              go_roundw
                              case rel => exact ⟨t + 1, by go_num, by rw [HT2.out], by omega, by first | rfl | trivial⟩
                              case measure => simp [intOf]; omega
                            · have HT2 : Hid (touchT M r k (t + 1) = y) := by rw [HTt.out]; simp [htr, Hid]
                              have j1 : ((t : Int) != (r : Int)) = true := bne_iff_ne.2 (by omega)
                              have j2 : ((t : Int) == (r : Int)) = false := beq_eq_false_iff_ne.2 (by omega)
                              clear htr
                              go_wp2
                              go_roundw
                              case rel => exact ⟨t + 1, by go_num, by rw [HT2.out], by omega, by first | rfl | trivial⟩
                              case measure => simp [intOf]; omega
                          · have HT2 : Hid (touchT M r k (t + 1) = true) := by rw [HTt.out]; simp [Hid]
                            go_wp2
                            go_roundw
                            case rel => exact ⟨t + 1, by go_num, by rw [HT2.out], by omega, by first | rfl | trivial⟩
                            case measure => simp [intOf]; omega
                        · have ht2 : t = l.length := by omega
                          subst ht2
                          have hle : Hid (cnt M ≤ cnt Mp) := by
                            cases more
                            · rw [(Hm0.out rfl).1]; exact Nat.le_refl _
                            · exact Nat.le_of_lt (Hm1.out rfl)
                          have HTn := hide (fun h => touchT_no (M := M) (r := r) (k := k) (t := l.length) h (Nat.le_of_eq HLen.out))
                          have HTy := hide (fun h => touchT_yes (M := M) (r := r) (k := k) (t := l.length) h)
                          generalize touchT M r k l.length = B at *
                          cases x
                          · go_wp2
                            go_roundw
                            case rel => exact ⟨more, n, a, k + 1, M, rfl, rfl, rfl, by go_num, by omega, HUo, HH, HLen, HTh, Hm1, fun h => ⟨(Hm0.out h).1, (Hm0.out h).2.1, (Hm0.out h).2.2.step (fun e => by rw [HX.out] at e; cases e)⟩, HNA.out.no HX.out⟩
                            case measure => simp [intOf]; omega
                          · cases B
                            · have HH2 := hide (HH.out.store Hbr.out Hmr.out k false)
                              have hm2 : (M.set r (mr.set k false))[r]? = some (mr.set k false) := List.getElem?_set_self (Pl.lt_of_some Hmr.out)
                              have hx2 : (mr.set k false)[k]? = some false := List.getElem?_set_self (Pl.lt_of_some Hxk.out)
                              obtain ⟨br2, gr2, capr2, hbr2, er2, cr2, hlenr2, hrowr2, -⟩ := HH2.out.blk hm2
                              obtain rfl := Option.some.inj (Hbr.out.symm.trans hbr2)
                              rw [List.length_set, HLen.out] at er2
                              simp only [Value.slice.injEq, Option.some.injEq, Addr.mk.injEq] at er2
                              obtain ⟨⟨rfl, -, -⟩, -, -⟩ := er2
                              have ck2 := hrowr2.cell (bools_at hx2)
                              have HL2 : Hid ((M.set r (mr.set k false)).length = l.length) := by rw [List.length_set]; exact HLen.out
                              have HE := hide (tabM_strike (k := k) Hmr.out)
                              have HC2 := hide (cnt_strike M r k mr Hmr.out Hxk.out)
                              have HUo2 : Hid (Up wo (wr.setCell ⟨br, k, none⟩ (.bool false))) := HUo.out.setCell Hlow.out _
                              clear hm2 hx2 hbr2 hrowr2
                              go_wp2
                              go_roundw
                              case rel =>
                                refine ⟨true, n, a, k + 1, M.set r (mr.set k false), rfl, rfl, rfl, by go_num, by omega, HUo2, HH2, HL2, ?_, fun _ => Nat.lt_of_lt_of_le HC2.out hle.out, by simp [Hid], ?_⟩
                                · rw [HE.out]; exact HTh.out.pt (HTn.out rfl)
                                · rw [HE.out]
                                  exact (HNA.out.congr (g := Vd.strike (tabM M) r k r) (fun j hj => Vd.strike_ne (by omega))).no (Vd.strike_at _ _ _)
                              case measure => simp [intOf]; omega
                            · go_wp2
                              go_roundw
                              case rel => exact ⟨more, n + 1, k, k + 1, M, rfl, by go_num, rfl, by go_num, by omega, HUo, HH, HLen, HTh, Hm1, fun h => ⟨(Hm0.out h).1, (Hm0.out h).2.1, (Hm0.out h).2.2.step (fun _ => HTy.out rfl)⟩, HNA.out.yes HX.out⟩
                              case measure => simp [intOf]; omega
                    · have hk2 : k = T.length := by omega
                      subst hk2
                      have hle : Hid (cnt M ≤ cnt Mp) := by
                        cases more
                        · rw [(Hm0.out rfl).1]; exact Nat.le_refl _
                        · exact Nat.le_of_lt (Hm1.out rfl)
                      have HFar : Hid (∀ s j, T.length ≤ j → tabM M s j = false) := fun s j hj => tabM_far HH.out.width hj
                      by_cases hn1 : n = 1
                      · subst hn1
                        obtain ⟨hal, hat⟩ := HNA.out.pos (Nat.le_refl _)
                        obtain ⟨mr, hmr, hxa⟩ := tabM_row hat
                        obtain ⟨br, gr, capr, hbr, er, cr, hlenr, hrowr, hlowr⟩ := HH.out.blk hmr
                        rw [HLen.out] at er
                        simp only [Value.slice.injEq] at er
                        obtain ⟨rfl, -, rfl⟩ := er
                        have HH2 := hide (HH.out.store hbr hmr a false)
                        have HL2 : Hid ((M.set r (mr.set a false)).length = l.length) := by rw [List.length_set]; exact HLen.out
                        have HE := hide (tabM_strike (k := a) hmr)
                        have HC2 := hide (cnt_strike M r a mr hmr hxa)
                        have HUo2 : Hid (Up wo (wr.setCell ⟨br, a, none⟩ (.bool false))) := HUo.out.setCell hlowr _
                        have HTh2 : Hid (Vd.Thin (Vd.tab0 l T) (tabM (M.set r (mr.set a false)))) := by
                          rw [HE.out]
                          exact HTh.out.ring fun j hj => by
                            rcases Nat.lt_or_ge j T.length with q | q
                            · exact HNA.out.one rfl j q hj
                            · exact HFar.out r j q
                        have cka := hrowr.cell (bools_at hxa)
                        have ckf := fun i => hrowr.frozen i
                        have i3 : (0 : Int) ≤ (a : Int) := by omega
                        have i4 : (a : Int) < (T.length : Int) := by omega
                        clear hmr hxa hbr hrowr hlowr hat
                        go_wp2
                        go_roundw
                        case rel => exact ⟨true, r + 1, M.set r (mr.set a false), rfl, by go_num, by omega, HUo2, HH2, HL2, HTh2, fun _ => Nat.lt_of_lt_of_le HC2.out hle.out, by simp [Hid]⟩
                        case measure => simp [intOf]; omega
                      · have HU9 : Hid (more = false → M = Mp ∧ Vd.Upto (tabM M) (r + 1)) := fun h => by
                          obtain ⟨q1, q2, q3⟩ := Hm0.out h
                          refine ⟨q1, q2.step (fun k hk => ?_) (HNA.out.ring hn1 (HFar.out r))⟩
                          rcases Nat.lt_or_ge k T.length with q | q
                          · exact q3 k q hk
                          · rw [HFar.out r k q] at hk; cases hk
                        have hn' : ((n : Int) == 1) = false := beq_eq_false_iff_ne.2 (by omega)
                        clear hn1
                        go_wp2
                        go_roundw
                        case rel => exact ⟨more, r + 1, M, rfl, by go_num, by omega, HUo, HH, HLen, HTh, Hm1, HU9⟩
                        case measure => simp [intOf]; omega
                · have hr2 : r = l.length := by omega
                  subst hr2
                  have HN2 : Hid (cnt M + (if more = true then 1 else 0) ≤ gk - 1 ∧ gk - 1 < gk) := by
                    have h1 : cnt Mp + 1 ≤ gk := HN.out
                    cases more
                    · have := (Hm0.out rfl).1
                      subst this
                      exact ⟨by simp; omega, by omega⟩
                    · have := Hm1.out rfl
                      exact ⟨by simp; omega, by omega⟩
                  go_wp2
                  go_roundg (gk - 1)
                  case rel => exact ⟨more, M, rfl, HUo, HH, HLen, HTh, HN2.out.1, fun h => (Hm0.out h).2⟩
                  case measure => exact HN2.out.2
end Go.Proofs.YtcclepohmhdpbaaGreatDoor
