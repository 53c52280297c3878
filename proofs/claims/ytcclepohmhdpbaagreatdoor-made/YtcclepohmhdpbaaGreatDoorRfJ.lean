import Derived.Test.YtcclepohmhdpbaaGreatDoorRfL
set_option maxHeartbeats 16000000
set_option maxRecDepth 8000
namespace Go.Proofs.YtcclepohmhdpbaaGreatDoor
set_option linter.all false
open Go.RowKit Go.Deep
theorem Pq{r:Ring}{q:Nat}{p:jE}(h:q+1<r.length)(hp:r[q]?=some p):r.dropLast[q]?=some p:=by
 rw[List.getElem?_dropLast,ai (by omega)];exact hp
theorem aem{T:List jE}{t:Nat}{a:jE}{p:jE}(h:T[t]?=some a):decide (p∈T.take (t+1))=(decide (p∈T.take t)||decide (a=p)):=by
 rw[Pl.take_one h];apply fe.2;simp only[bF,di,aC,bB];constructor;{rintro(h|h);exact .inl h;exact .inr h.symm};·rintro(h|h);exact .inl h;exact .inr h.symm
theorem Dj{M:List (List Bool)}{r k:Nat}(h:M.length<=r):qi M r k=false:=by
 unfold qi;rw[aY h];rfl
theorem Pt{M:List (List Bool)}{r k n:Nat}(hr:∀(i:Nat)(m:List Bool),M[i]?=some m->m.length=n)(h:n<=k):qi M r k=false:=by
 unfold qi;cases hm:M[r]?with|none=>rfl|some m=>simp[aY (show m.length<=k by rw[hr r m hm];exact h)]
theorem HT.width{base:Nat}{w:World}{hv:Value}{bs:List Nat}{M:List (List Bool)}{n:Nat}(h:HT base w hv bs M n):∀(i:Nat)(m:List Bool),M[i]?=some m->m.length=n:=fun i m hm=>by obtain⟨_,_,_,_,_,_,e,_⟩:=h.blk hm;exact e
theorem WX{M:List (List Bool)}{r k t:Nat}(h:uw M r k t=false)(ht:M.length<=t):∀s,s≠r->qi M s k=false:=by
 intro s hs;by_cases c:s<t;{cases q:qi M s k with|false=>rfl|true=>have:=Vd.kV (f:=fun s=>decide (s≠r)&&qi M s k) c (by simp[hs,q]);unfold uw at h;rw[h]at this;cases this};·exact Dj (by omega)
theorem Ir{M:List (List Bool)}{r k:Nat}:∀{t:Nat},uw M r k t=true->∃s,s≠r∧qi M s k=true|0,h=>by cases h|t+1,h=>by rw[E4,di,bT]at h;rcases h with h|⟨h1,h2⟩;{exact Ir h};·exact⟨t,bE h1,h2⟩
theorem aen (v : Value) (l : Poly) (w : World) (hv : uJ w v l) (hl : l.length ≤ 1048576) (pL : ∀ r ∈ l, r.length ≤ 1048576) (hf : l.flatten.length ≤ 1048576) (hc : Vd.y6 l) (hsh : ∀ r ∈ l, Vd.Shut r) :
    Calls Tryz.prog 127 #[v] w fun e w' => ∃ b, e = .returned (.bool b) ∧ (b = true ↔ Vd.ye l) ∧ Up w w' := by
  have HV := jy hv
  obtain ⟨ao, cap, rfl, hm⟩ := hv
  have HM := jy hm
  have HC := jy hc
  have HL := jy pL
  have HF := jy hf
  have HS := jy hsh
  clear hm hc pL hf hsh
  go_enter Tryz.func127, Tryz.ntmps127
  go_wp2
  go_loopw [3, 4] (fun av i wr => ∃ (k : Nat) (u : Value), i = .int .i64 k ∧ u = av ∧ k ≤ l.length ∧ Hid (Up w wr) ∧ Hid (wr.ownsRow w.heap.size 32 2 u (sF (heads (l.take k))).length (flat (sF (heads (l.take k)))))) (fun _ i _ => l.length - (intOf i).toNat)
  case atStart => exact ⟨0, _, rfl, rfl, Nat.zero_le _, Up.refl _, World.ownsRow_nil _ _ _ _⟩
  case round =>
    obtain ⟨k, u, rfl, rfl, hk, HU, HO⟩ := hrel
    by_cases hlt : k < l.length
    · obtain ⟨r, hr⟩ := Pl.jC hlt
      obtain ⟨b, y, rfl, cu, hy⟩ := HM.out k r hr
      obtain ⟨uC, mG, rfl, hp⟩ := hy
      have HP := jy hp
      have CU := jy cu
      have hrl := HL.out r (Pl.jz hr)
      have Sl := jy (Sw hr)
      have HFb : Hid ((heads (l.take k)).length + r.length ≤ 2097152) := by
        have h1 := KI (l.take k)
        have h2 : (l.take k).flatten.length ≤ l.flatten.length := by
          conv => rhs; rw [← List.take_append_drop k l, List.flatten_append, List.length_append]
          omega
        have := HF.out
        show _ ≤ _
        omega
      have i1 : (0 : Int) ≤ (k : Int) := by omega
      have i2 : (k : Int) < (l.length : Int) := by omega
      clear hr cu hp
      go_wp2
      go_loopw [3, 5] (fun av i wr => ∃ (q : Nat) (u : Value), i = .int .i64 q ∧ u = av ∧ q ≤ r.length ∧ Hid (Up w wr) ∧ Hid (wr.ownsRow w.heap.size 32 2 u (sF (heads (l.take k) ++ r.dropLast.take q)).length (flat (sF (heads (l.take k) ++ r.dropLast.take q))))) (fun _ i _ => r.length - (intOf i).toNat)
      case atStart => exact ⟨0, _, rfl, rfl, Nat.zero_le _, HU, by rw [List.take_zero, List.append_nil]; exact HO⟩
      case round =>
        clear HU HO
        obtain ⟨q, u, rfl, rfl, hq, HU, HO⟩ := hrel
        have xS := HU.out.cell CU.out
        try dsimp only at xS
        by_cases oQ : q + 1 < r.length
        · obtain ⟨⟨px, py⟩, hxy⟩ := Pl.jC (show q < r.length by omega)
          obtain ⟨b2, rfl, cx, cy⟩ := HP.out q (px, py) hxy
          have VO := HU.out.cell cx
          have VQ := HU.out.cell cy
          try dsimp only at VO VQ
          have HX : Hid (sF (heads (l.take k) ++ r.dropLast.take (q + 1)) = Bk (sF (heads (l.take k) ++ r.dropLast.take q)) (px, py)) := by
            rw [Pl.take_one (Pq oQ hxy), ← List.append_assoc, Sv]; exact rfl
          have hal : (sF (heads (l.take k) ++ r.dropLast.take q)).length ≤ 2097152 := by
            have h1 := KH (heads (l.take k) ++ r.dropLast.take q)
            have h2 := HFb.out
            simp only [List.length_append, List.length_take, List.length_dropLast] at h1
            omega
          generalize hT : sF (heads (l.take k) ++ r.dropLast.take q) = T at *
          obtain ⟨ta, tc, e3, KG⟩ := wR HO.out
          obtain ⟨ta', tc', rfl⟩ := j6 HO.out
          simp only [Value.slice.injEq] at e3
          obtain ⟨rfl, -, rfl⟩ := e3
          have HMM := jy KG
          have i3 : (0 : Int) ≤ (q : Int) := by omega
          have i4 : (q : Int) < (r.length : Int) := by omega
          have i5 : (q : Int) + 1 < (r.length : Int) := by omega
          obtain ⟨wo, Su⟩ : ∃ wo : World, wo = wr := ⟨_, rfl⟩
          subst Su
          clear hxy cx cy hT KG
          go_wp2
          go_loopw [6, 7] (fun iv j wq => ∃ t : Nat, j = .int .i64 t ∧ iv = .bool (decide ((px, py) ∈ T.take t)) ∧ t ≤ T.length ∧ Hid (Up wo wq)) (fun _ j _ => T.length - (intOf j).toNat)
          case atStart => exact ⟨0, rfl, by simp, Nat.zero_le _, Up.refl _⟩
          case round =>
            obtain ⟨t, rfl, rfl, ht, qs⟩ := hrel
            by_cases vU : t < T.length
            · obtain ⟨⟨qx, qy⟩, tG⟩ := Pl.jC vU
              obtain ⟨g2, rfl, d0, d1⟩ := HMM.out t (qx, qy) tG
              have HI := jy (aem (p := (px, py)) tG)
              generalize decide ((px, py) ∈ T.take t) = B at *
              have i6 : (0 : Int) ≤ (t : Int) := by omega
              have i7 : (t : Int) < (T.length : Int) := by omega
              have f0 := qs.out.cell VO
              have f1 := qs.out.cell VQ
              have f2 := qs.out.cell xS
              have g0 := qs.out.cell d0
              have g1 := qs.out.cell d1
              try dsimp only at g0 g1
              clear tG d0 d1 VO VQ xS
              cases B
              · by_cases h1 : qx = px
                · by_cases h2 : qy = py
                  · subst h1 h2
                    have HI2 : Hid (decide ((qx, qy) ∈ T.take (t + 1)) = true) := by rw [HI.out]; simp [Hid]
                    go_wp2
                    go_quiet (fail)
                    go_wp2
                    go_roundw
                    case rel => exact ⟨t + 1, by go_num, by rw [HI2.out], by omega, qs.out.drewN _⟩
                    case measure => simp [intOf]; omega
                  · have HI2 : Hid (decide ((px, py) ∈ T.take (t + 1)) = false) := by rw [HI.out]; simp [h2, Hid]
                    subst h1
                    have h2' := beq_eq_false_iff_ne.2 h2
                    go_wp2
                    go_quiet (fail)
                    go_wp2
                    go_roundw
                    case rel => exact ⟨t + 1, by go_num, by rw [HI2.out], by omega, qs.out.drewN _⟩
                    case measure => simp [intOf]; omega
                · have HI2 : Hid (decide ((px, py) ∈ T.take (t + 1)) = false) := by rw [HI.out]; simp [h1, Hid]
                  have h1' := beq_eq_false_iff_ne.2 h1
                  go_wp2
                  go_quiet (fail)
                  go_wp2
                  go_roundw
                  case rel => exact ⟨t + 1, by go_num, by rw [HI2.out], by omega, qs.out.drewN _⟩
                  case measure => simp [intOf]; omega
              · have HI2 : Hid (decide ((px, py) ∈ T.take (t + 1)) = true) := by rw [HI.out]; simp [Hid]
                go_wp2
                go_quiet (fail)
                go_wp2
                go_roundw
                case rel => exact ⟨t + 1, by go_num, by rw [HI2.out], by omega, qs.out.drewN _⟩
                case measure => simp [intOf]; omega
            · have ht2 : t = T.length := by omega
              subst ht2
              rw [List.take_length]
              have Qb := jy (lM HO.out qs.out)
              have lQ := jy (HU.out.trans qs.out)
              have f0 := qs.out.cell VO
              have f1 := qs.out.cell VQ
              have f2 := qs.out.cell xS
              clear VO VQ xS
              by_cases hin : (px, py) ∈ T
              · have HE := jy (HX.out.trans (show Bk T (px, py) = T from if_pos hin))
                rw [decide_eq_true hin]
                go_wp2
                go_roundw
                case rel => exact ⟨q + 1, _, by go_num, rfl, by omega, lQ, by rw [HE.out]; exact Qb⟩
                case measure => simp [intOf]; omega
              · have HE := jy (HX.out.trans (show Bk T (px, py) = T ++ [(px, py)] from if_neg hin))
                rw [decide_eq_false hin]
                have A2 := jy (Qb.out.alloc (.cells #[.int .i64 px, .int .i64 py] 32))
                have hb : Hid (T.length ≤ 1073741824) := by show _ ≤ _; omega
                have hsz := jy lQ.out.size
                go_wp2_with (at_builtin; refine kP tq rfl (.tmp 62) (.tmp 70) rfl w.heap.size _ _ _ (by rfl) A2.out wr.heap.size [.int .i64 px, .int .i64 py] (by rfl) rfl (heap_alloc_new wr _) (by intro x hx; simp at hx; rcases hx with rfl | rfl <;> rfl) hb.out (by simp; have := hsz.out; omega) ?_; intro g cap w5 kS pF qw qZ; replace kS := jy kS; replace pF := jy pF; clear qw qZ)
                go_roundw
                case rel =>
                  refine ⟨q + 1, _, by go_num, rfl, by omega, ?_, ?_⟩
                  · exact Fr.up (S := fun _ => False) (((Fr.me lQ.out).alloc _).grown pF.out fun x hx => .inr (j8 A2.out hx).1) (fun _ _ h => h)
                  · rw [HE.out, nO, List.length_append]; exact kS.out
                case measure => simp [intOf]; omega
        · have HE : Hid (heads (l.take k) ++ r.dropLast.take q = heads (l.take (k + 1))) := by
            have e : r.dropLast.take q = r.dropLast := List.take_of_length_le (by rw [List.length_dropLast]; omega)
            rw [Sl.out, e]; exact rfl
          rw [HE.out] at HO
          go_wp2
          go_roundw
          case rel => exact ⟨k + 1, _, by go_num, rfl, by omega, HU, HO⟩
          case measure => simp [intOf]; omega
    · have hk2 : k = l.length := by omega
      subst hk2
      rw [List.take_length] at HO
      have HTn := jy (Po (heads l))
      have HTm : Hid (∀ p, p ∈ sF (heads l) ↔ p ∈ l.flatten) := fun p => by rw [WO, WQ HS.out]
      have hTl : (sF (heads l)).length ≤ 1048576 := by have h1 := KH (heads l); have h2 := KI l; have h3 := HF.out; omega
      generalize sF (heads l) = T at *
      have HTc : Hid (∀ p ∈ T, Vd.Cd p) := fun p hp => by
        obtain ⟨r, hr, hpr⟩ := List.mem_flatten.1 ((HTm.out p).1 hp)
        exact HC.out r hr p hpr
      obtain ⟨ta, tc, e3, KG⟩ := wR HO.out
      obtain ⟨ta', tc', rfl⟩ := j6 HO.out
      simp only [Value.slice.injEq] at e3
      obtain ⟨rfl, -, rfl⟩ := e3
      have HMM := jy KG
      obtain ⟨wo, Su⟩ : ∃ wo : World, wo = wr := ⟨_, rfl⟩
      subst Su
      clear KG HO hlt
      go_wp2
      go_loopw [8, 9] (fun hx i wr => ∃ (j : Nat) (h : Value) (bs : List Nat), i = .int .i64 j ∧ h = hx ∧ j ≤ l.length ∧ Hid (Up wo wr) ∧ Hid (HT wo.heap.size wr h bs ((l.take j).map (rowOf T)) T.length)) (fun _ i _ => l.length - (intOf i).toNat)
      case atStart => exact ⟨0, _, [], rfl, rfl, Nat.zero_le _, Up.refl _, HT.nil _ _ _⟩
      case round =>
        obtain ⟨j, hx, bs, rfl, rfl, hj, yV, HH⟩ := hrel
        by_cases hlj : j < l.length
        · obtain ⟨r, hr⟩ := Pl.jC hlj
          obtain ⟨b0, y, rfl, cu, hy⟩ := HM.out j r hr
          obtain ⟨uC, mG, rfl, hp⟩ := hy
          have HRr : Hid (uU w (.slice uC r.length mG) r) := ⟨uC, mG, rfl, hp⟩
          have CU := jy (HU.out.cell cu)
          have hrl := HL.out r (Pl.jz hr)
          have Jm := jy (HC.out r (Pl.jz hr))
          have Sl : Hid ((l.take (j + 1)).map (rowOf T) = (l.take j).map (rowOf T) ++ [rowOf T r]) := by rw [Pl.take_one hr, List.map_append]; exact rfl
          have hmk := SA T.length (by omega)
          obtain ⟨wp, hwp⟩ : ∃ wp : World, wp = wr := ⟨_, rfl⟩
          subst hwp
          have RB : Hid (jK (wp.alloc (.cells (bools (List.replicate T.length false)).toArray 4)) wp.heap.size 4 (bools (zZ (rowOf T r) 0))) := by
            rw [SB, show (rowOf T r).length = T.length by simp [rowOf]]; exact jK.new wp _ _
          have Qc : Hid (Up wp (wp.alloc (.cells (bools (List.replicate T.length false)).toArray 4))) := (Up.refl _).alloc _
          have i1 : (0 : Int) ≤ (j : Int) := by omega
          have i2 : (j : Int) < (l.length : Int) := by omega
          clear cu hp hr
          go_wp2
          obtain ⟨B, hB⟩ : ∃ B, wp.heap.size = B := ⟨_, rfl⟩
          rw [hB] at RB ⊢
          have HB := jy hB
          generalize wp.alloc (.cells (bools (List.replicate T.length false)).toArray 4) = W0 at *
          clear hmk hB
          go_loopw [11] (fun i wq => ∃ t : Nat, i = .int .i64 t ∧ t ≤ T.length ∧ Hid (Up wp wq) ∧ Hid (jK wq B 4 (bools (zZ (rowOf T r) t)))) (fun i _ => T.length - (intOf i).toNat)
          case atStart => exact ⟨0, rfl, Nat.zero_le _, Qc, RB⟩
          case round =>
            clear Qc RB
            obtain ⟨t, rfl, ht, qs, RB⟩ := hrel
            by_cases vU : t < T.length
            · obtain ⟨⟨px, py⟩, tG⟩ := Pl.jC vU
              obtain ⟨g2, rfl, d0, d1⟩ := HMM.out t (px, py) tG
              have HCp := jy (HTc.out _ (Pl.jz tG))
              obtain ⟨I, hI⟩ : ∃ I, Vd.mW r (Vd.qW (px, py)) = I := ⟨_, rfl⟩
              have HAt := jy (aaU (r := r) tG)
              rw [hI] at HAt
              have HK : Hid (∀ g : Gr wr, Calls Tryz.prog 164 #[.slice uC r.length mG, .agg #[.int .i64 px, .int .i64 py], .int .i64 1] g.v fun e w' => e = .returned (.int .i64 I) ∧ Up g.v w') := fun g =>
                Em (p := Vd.qW (px, py)) hI ((HRr.out.up (HU.out.trans (yV.out.trans qs.out))).up g.up) hrl Jm.out (Vd.uj HCp.out)
              have s0 := jQ ((yV.out.trans qs.out).cell CU.out)
              have s1 := jQ ((yV.out.trans qs.out).cell d0)
              have s2 := jQ ((yV.out.trans qs.out).cell d1)
              try dsimp only at s0 s1 s2
              have i3 : (0 : Int) ≤ (t : Int) := by omega
              have i4 : (t : Int) < (T.length : Int) := by omega
              have HFa := jy (xL (aaV (m := rowOf T r) (t := t) (by simp [rowOf]; exact vU)))
              clear tG d0 d1 hI
              go_wp2_with fail
              refine jN (by kernel_rfl) (by kernel_rfl) ?_
              repeat (first | go_big_quiet_step ((go_at_call 164; exact Calls.kL (HK.out _))))
              refine wpQuiet_nil ?_
              rintro w3 ⟨⟨_, u3⟩, rfl⟩
              have lV := jy (qs.out.trans u3)
              have RB3 := jy (RB.out.up u3)
              have k0 := RB3.out.cell HFa.out
              have kf := fun i => RB3.out.frozen i
              have MJ : Hid (wp.heap.size ≤ B) := Nat.le_of_eq HB.out
              clear u3 s0 s1 s2 HK
              by_cases h0 : I = 0
              · have ahF : Hid ((rowOf T r)[t]? = some true) := by rw [HAt.out, decide_eq_true h0]; exact rfl
                subst h0
                go_wp2
                go_roundw
                case rel => exact ⟨t + 1, by go_num, by omega, lV.out.setCell MJ.out _, by rw [← KJ ahF.out, En]; exact RB3.out.set t _⟩
                case measure => simp [intOf]; omega
              · have ahF : Hid ((rowOf T r)[t]? = some false) := by rw [HAt.out, decide_eq_false h0]; exact rfl
                have h0' := beq_eq_false_iff_ne.2 h0
                go_wp2
                go_roundw
                case rel => exact ⟨t + 1, by go_num, by omega, lV.out.setCell MJ.out _, by rw [← KJ ahF.out, En]; exact RB3.out.set t _⟩
                case measure => simp [intOf]; omega
            · have ht2 : t = T.length := by omega
              subst ht2
              have ak5 : (rowOf T r).length = T.length := by simp [rowOf]
              rw [← ak5, WW] at RB
              have HHq := jy (HH.out.up qs.out)
              have HUr := jy (yV.out.trans qs.out)
              have Fm : Hid (B ∉ bs) := by have := HH.out.new; rw [HB.out] at this; exact this
              have MJ : Hid (wo.heap.size ≤ B) := by have := yV.out.size; have := HB.out; show _ ≤ _; omega
              have hbl : Hid (bs.length ≤ 1073741824) := by have := HH.out.len; simp only [List.length_map, List.length_take] at this; show _ ≤ _; omega
              obtain ⟨ha, hcap, rfl⟩ := j6 HHq.out.own
              have A2 := jy (HHq.out.own.alloc (.cells #[.slice (some ⟨B, 0, none⟩) T.length T.length] 196))
              have hsz := jy HUr.out.size
              go_wp2_with (at_builtin; refine kP WU rfl (.tmp 101) (.tmp 103) rfl wo.heap.size _ _ _ (by rfl) A2.out wr.heap.size (WV T.length B) (by rfl) rfl (heap_alloc_new wr _) (by intro x hx; simp [WV] at hx; subst hx; rfl) hbl.out (by simp; have := hsz.out; omega) ?_; intro g cap w5 kS pF qw qZ; replace kS := jy kS; replace pF := jy pF; clear qw qZ)
              go_roundw
              case rel =>
                refine ⟨j + 1, _, bs ++ [B], by go_num, rfl, by omega, ?_, ?_⟩
                · exact Fr.up (S := fun _ => False) (((Fr.me HUr.out).alloc _).grown pF.out fun x hx => .inr (j8 A2.out hx).1) (fun _ _ h => h)
                · rw [Sl.out]
                  exact (HHq.out.up ((Up.refl wr).alloc _)).push (RB.out.alloc _) ak5 MJ.out Fm.out pF.out kS.out
              case measure => simp [intOf]; omega
        · have hj2 : j = l.length := by omega
          subst hj2
          rw [List.take_length] at HH
          have HT0 : Hid (qi (l.map (rowOf T)) = Vd.Ff l T) := by
            funext s k
            unfold qi Vd.Ff
            rw [List.getElem?_map]
            by_cases c : s < l.length
            · obtain ⟨r, hr⟩ := Pl.jC c
              have er : Vd.lD l s = r := by unfold Vd.lD; rw [List.getD_eq_getElem?_getD, hr]; rfl
              rw [hr, er]
              simp only [Option.map_some, Option.bind_some]
              cases hk : T[k]? with
              | none => simp [rowOf, hk]
              | some p => simp [rowOf, hk, c]
            · rw [List.getElem?_eq_none (by omega)]
              cases hk : T[k]? with
              | none => simp
              | some p => simp [c]
          have Pu : Hid (Vd.AW (Vd.Ff l T) (qi (l.map (rowOf T)))) := by rw [HT0.out]; exact Vd.AW.refl _
          have hMl : (l.map (rowOf T)).length = l.length := by simp
          generalize l.map (rowOf T) = M0 at *
          obtain ⟨ha, hcap, rfl⟩ := HH.out.shape
          rw [hMl] at HH ⊢
          have ak6 := jy hMl
          clear hMl HT0
          go_wp2
          go_loopg [14] (cnt M0 + 2) (fun n mv wr => ∃ (more : Bool) (M : List (List Bool)), mv = .bool more ∧ Hid (Up wo wr) ∧ Hid (HT wo.heap.size wr (.slice ha l.length hcap) bs M T.length) ∧ Hid (M.length = l.length) ∧ Hid (Vd.AW (Vd.Ff l T) (qi M)) ∧ Hid (cnt M + (if more = true then 1 else 0) ≤ n) ∧ Hid (more = false → Vd.SC (qi M) l.length))
          case atStart => exact ⟨true, M0, rfl, yV, HH, ak6, Pu, by simp [Hid], by simp [Hid]⟩
          case round =>
            clear yV HH ak6 Pu
            obtain ⟨more, Mp, rfl, yV, HH, tH, Pu, HN, Qc⟩ := hrel
            cases more
            · have ak7 : Hid ((∃ r k, qi Mp r k = true) ↔ Vd.ye l) := by
                show _ ↔ _
                rw [Vd.Oh HTn.out HTm.out]
                refine Pu.out.done ?_ ?_
                · intro r k h
                  rcases Nat.lt_or_ge r l.length with q | q
                  · exact (Qc.out rfl r q).1 k h
                  · rw [Dj (by rw [tH.out]; exact q)] at h; cases h
                · intro r k h
                  rcases Nat.lt_or_ge r l.length with q | q
                  · exact (Qc.out rfl r q).2 k h
                  · rw [Dj (by rw [tH.out]; exact q)] at h; cases h
              clear Qc Pu HN
              go_wp2
              go_loopw [21] (fun i wr => ∃ r : Nat, i = .int .i64 r ∧ r ≤ l.length ∧ Hid (Up wo wr) ∧ Hid (HT wo.heap.size wr (.slice ha l.length hcap) bs Mp T.length) ∧ Hid (∀ s j, s < r → qi Mp s j = false)) (fun i _ => l.length - (intOf i).toNat)
              case atStart => exact ⟨0, rfl, Nat.zero_le _, yV, HH, fun s j h => absurd h (by omega)⟩
              case round =>
                clear yV HH
                obtain ⟨r, rfl, hr, yV, HH, HZ⟩ := hrel
                by_cases hlr : r < l.length
                · have i1 : (0 : Int) ≤ (r : Int) := by omega
                  have i2 : (r : Int) < (l.length : Int) := by omega
                  go_wp2
                  go_loopw [22] (fun i wr => ∃ k : Nat, i = .int .i64 k ∧ k ≤ T.length ∧ Hid (Up wo wr) ∧ Hid (HT wo.heap.size wr (.slice ha l.length hcap) bs Mp T.length) ∧ Hid (∀ j, j < k → qi Mp r j = false)) (fun i _ => T.length - (intOf i).toNat)
                  case atStart => exact ⟨0, rfl, Nat.zero_le _, yV, HH, fun j h => absurd h (by omega)⟩
                  case round =>
                    clear yV HH
                    obtain ⟨k, rfl, hk, yV, HH, HY⟩ := hrel
                    by_cases hlk : k < T.length
                    · obtain ⟨mr, hmr⟩ := Pl.jC (show r < Mp.length by have := tH.out; omega)
                      obtain ⟨br, gr, ak8, V8, er, cr, afo, z8, Iu⟩ := HH.out.blk hmr
                      rw [tH.out] at er
                      simp only [Value.slice.injEq] at er
                      obtain ⟨rfl, -, rfl⟩ := er
                      obtain ⟨x, hx⟩ := Pl.jC (show k < mr.length by omega)
                      have HX := jy (Mi hmr hx)
                      have i3 : (0 : Int) ≤ (k : Int) := by omega
                      have i4 : (k : Int) < (T.length : Int) := by omega
                      have ckx := z8.cell (xL hx)
                      clear hmr hx z8 V8 Iu
                      cases x
                      · go_wp2
                        go_roundw
                        case rel =>
                          refine ⟨k + 1, by go_num, by omega, yV, HH, fun j hj => ?_⟩
                          by_cases e : j = k
                          · rw [e]; exact HX.out
                          · exact HY.out j (by omega)
                        case measure => simp [intOf]; omega
                      · go_wp2
                        go_ret
                        exact ⟨true, rfl, ⟨fun _ => ak7.out.1 ⟨r, k, HX.out⟩, fun _ => rfl⟩, HU.out.trans yV.out⟩
                    · have HZ2 : Hid (∀ s j, s < r + 1 → qi Mp s j = false) := fun s j hs => by
                        by_cases e : s = r
                        · subst e
                          rcases Nat.lt_or_ge j T.length with q | q
                          · exact HY.out j (by omega)
                          · exact Pt HH.out.width q
                        · exact HZ.out s j (by omega)
                      go_wp2
                      go_roundw
                      case rel => exact ⟨r + 1, by go_num, by omega, yV, HH, HZ2⟩
                      case measure => simp [intOf]; omega
                · have HNo : Hid (¬ Vd.ye l) := fun h => by
                    obtain ⟨s, j, e⟩ := ak7.out.2 h
                    rcases Nat.lt_or_ge s l.length with q | q
                    · rw [HZ.out s j (by omega)] at e; cases e
                    · rw [Dj (by rw [tH.out]; exact q)] at e; cases e
                  go_wp2
                  go_ret
                  exact ⟨false, rfl, ⟨fun h => absurd h (by simp), fun h => absurd h HNo.out⟩, HU.out.trans yV.out⟩
            · clear Qc
              go_wp2
              go_loopw [14, 15] (fun mv i wr => ∃ (more : Bool) (r : Nat) (M : List (List Bool)), mv = .bool more ∧ i = .int .i64 r ∧ r ≤ l.length ∧ Hid (Up wo wr) ∧ Hid (HT wo.heap.size wr (.slice ha l.length hcap) bs M T.length) ∧ Hid (M.length = l.length) ∧ Hid (Vd.AW (Vd.Ff l T) (qi M)) ∧ Hid (more = true → cnt M < cnt Mp) ∧ Hid (more = false → M = Mp ∧ Vd.SC (qi M) r)) (fun _ i _ => l.length - (intOf i).toNat)
              case atStart => exact ⟨false, 0, Mp, rfl, rfl, Nat.zero_le _, yV, HH, tH, Pu, by simp [Hid], fun _ => ⟨rfl, fun s h => absurd h (by omega)⟩⟩
              case round =>
                clear yV HH tH Pu
                obtain ⟨more, r, M, rfl, rfl, hr, yV, HH, tH, Pu, Hm1, SD⟩ := hrel
                by_cases hlr : r < l.length
                · have i1 : (0 : Int) ≤ (r : Int) := by omega
                  have i2 : (r : Int) < (l.length : Int) := by omega
                  go_wp2
                  go_loopw [14, 16, 17, 18] (fun mv nv av kv wr => ∃ (more : Bool) (n a k : Nat) (M : List (List Bool)), mv = .bool more ∧ nv = .int .i64 n ∧ av = .int .i64 a ∧ kv = .int .i64 k ∧ k ≤ T.length ∧ Hid (Up wo wr) ∧ Hid (HT wo.heap.size wr (.slice ha l.length hcap) bs M T.length) ∧ Hid (M.length = l.length) ∧ Hid (Vd.AW (Vd.Ff l T) (qi M)) ∧ Hid (more = true → cnt M < cnt Mp) ∧ Hid (more = false → M = Mp ∧ Vd.SC (qi M) r ∧ Vd.Shared (qi M) r k) ∧ Hid (Vd.NA (qi M r) k n a)) (fun _ _ _ kv _ => T.length - (intOf kv).toNat)
                  case atStart => exact ⟨more, 0, 0, 0, M, rfl, rfl, rfl, rfl, Nat.zero_le _, yV, HH, tH, Pu, Hm1, fun h => ⟨(SD.out h).1, (SD.out h).2, Vd.Pp _ _⟩, Vd.NA.start _⟩
                  case round =>
                    clear yV HH tH Pu Hm1 SD
                    obtain ⟨more, n, a, k, M, rfl, rfl, rfl, rfl, hk, yV, HH, tH, Pu, Hm1, SD, HNA⟩ := hrel
                    have hna := HNA.out.le
                    by_cases hlk : k < T.length
                    · obtain ⟨mr, hmr⟩ := Pl.jC (show r < M.length by have := tH.out; omega)
                      obtain ⟨br, gr, ak8, V8, er, cr, afo, z8, Iu⟩ := HH.out.blk hmr
                      rw [tH.out] at er
                      simp only [Value.slice.injEq] at er
                      obtain ⟨rfl, -, rfl⟩ := er
                      obtain ⟨x, hx⟩ := Pl.jC (show k < mr.length by omega)
                      have HX := jy (Mi hmr hx)
                      have Mj := jy z8
                      have Hbr := jy V8
                      have Hmr := jy hmr
                      have Hxk := jy hx
                      have apt := jy Iu
                      have i3 : (0 : Int) ≤ (k : Int) := by omega
                      have i4 : (k : Int) < (T.length : Int) := by omega
                      have ckx := z8.cell (xL hx)
                      have ckf := fun i => z8.frozen i
                      obtain ⟨wk, hwk⟩ : ∃ wk : World, wk = wr := ⟨_, rfl⟩
                      subst hwk
                      clear hmr hx z8 V8 Iu
                      go_wp2
                      go_loopw [19, 20] (fun tv sv wr => ∃ t : Nat, sv = .int .i64 t ∧ tv = .bool (uw M r k t) ∧ t ≤ l.length ∧ wr = wk) (fun _ sv _ => l.length - (intOf sv).toNat)
                      case atStart => exact ⟨0, rfl, rfl, Nat.zero_le _, rfl⟩
                      case round =>
                        obtain ⟨t, rfl, rfl, ht, rfl⟩ := hrel
                        by_cases vU : t < l.length
                        · obtain ⟨mt, hmt⟩ := Pl.jC (show t < M.length by have := tH.out; omega)
                          obtain ⟨bt, gt, avj, hbt, et, ct, asa, afp, -⟩ := HH.out.blk hmt
                          rw [tH.out] at et
                          simp only [Value.slice.injEq, Option.some.injEq, Addr.mk.injEq] at et
                          obtain ⟨⟨rfl, -, -⟩, -, -⟩ := et
                          obtain ⟨y, hy⟩ := Pl.jC (show k < mt.length by omega)
                          have cky := afp.cell (xL hy)
                          have HTt := jy (E4 M r k t)
                          rw [Mi hmt hy] at HTt
                          generalize uw M r k t = B at *
                          have i5 : (0 : Int) ≤ (t : Int) := by omega
                          have i6 : (t : Int) < (l.length : Int) := by omega
                          clear hmt hy hbt afp
                          cases B
                          · by_cases htr : t = r
                            · have HT2 : Hid (uw M r k (t + 1) = false) := by rw [HTt.out]; simp [htr, Hid]
                              have j1 : ((t : Int) != (r : Int)) = false := by rw [htr]; simp
                              have j2 : ((t : Int) == (r : Int)) = true := by rw [htr]; simp
                              clear htr
                              go_wp2
                              go_roundw
                              case rel => exact ⟨t + 1, by go_num, by rw [HT2.out], by omega, by first | rfl | trivial⟩
                              case measure => simp [intOf]; omega
                            · have HT2 : Hid (uw M r k (t + 1) = y) := by rw [HTt.out]; simp [htr, Hid]
                              have j1 : ((t : Int) != (r : Int)) = true := bne_iff_ne.2 (by omega)
                              have j2 : ((t : Int) == (r : Int)) = false := beq_eq_false_iff_ne.2 (by omega)
                              clear htr
                              go_wp2
                              go_roundw
                              case rel => exact ⟨t + 1, by go_num, by rw [HT2.out], by omega, by first | rfl | trivial⟩
                              case measure => simp [intOf]; omega
                          · have HT2 : Hid (uw M r k (t + 1) = true) := by rw [HTt.out]; simp [Hid]
                            go_wp2
                            go_roundw
                            case rel => exact ⟨t + 1, by go_num, by rw [HT2.out], by omega, by first | rfl | trivial⟩
                            case measure => simp [intOf]; omega
                        · have ht2 : t = l.length := by omega
                          subst ht2
                          have hle : Hid (cnt M ≤ cnt Mp) := by
                            cases more
                            · rw [(SD.out rfl).1]; exact Nat.le_refl _
                            · exact Nat.le_of_lt (Hm1.out rfl)
                          have HTn := jy (fun h => WX (M := M) (r := r) (k := k) (t := l.length) h (Nat.le_of_eq tH.out))
                          have HTy := jy (fun h => Ir (M := M) (r := r) (k := k) (t := l.length) h)
                          generalize uw M r k l.length = B at *
                          cases x
                          · go_wp2
                            go_roundw
                            case rel => exact ⟨more, n, a, k + 1, M, rfl, rfl, rfl, by go_num, by omega, yV, HH, tH, Pu, Hm1, fun h => ⟨(SD.out h).1, (SD.out h).2.1, (SD.out h).2.2.step (fun e => by rw [HX.out] at e; cases e)⟩, HNA.out.no HX.out⟩
                            case measure => simp [intOf]; omega
                          · cases B
                            · have HH2 := jy (HH.out.store Hbr.out Hmr.out k false)
                              have hm2 : (M.set r (mr.set k false))[r]? = some (mr.set k false) := List.getElem?_set_self (Pl.jI Hmr.out)
                              have hx2 : (mr.set k false)[k]? = some false := List.getElem?_set_self (Pl.jI Hxk.out)
                              obtain ⟨br2, gr2, asb, ak9, er2, cr2, apv, aaX, -⟩ := HH2.out.blk hm2
                              obtain rfl := Option.some.inj (Hbr.out.symm.trans ak9)
                              rw [List.length_set, tH.out] at er2
                              simp only [Value.slice.injEq, Option.some.injEq, Addr.mk.injEq] at er2
                              obtain ⟨⟨rfl, -, -⟩, -, -⟩ := er2
                              have ck2 := aaX.cell (xL hx2)
                              have HL2 : Hid ((M.set r (mr.set k false)).length = l.length) := by rw [List.length_set]; exact tH.out
                              have HE := jy (EZ (k := k) Hmr.out)
                              have yU := jy (BU M r k mr Hmr.out Hxk.out)
                              have ahH : Hid (Up wo (wr.setCell ⟨br, k, none⟩ (.bool false))) := yV.out.setCell apt.out _
                              clear hm2 hx2 ak9 aaX
                              go_wp2
                              go_roundw
                              case rel =>
                                refine ⟨true, n, a, k + 1, M.set r (mr.set k false), rfl, rfl, rfl, by go_num, by omega, ahH, HH2, HL2, ?_, fun _ => Nat.lt_of_lt_of_le yU.out hle.out, by simp [Hid], ?_⟩
                                · rw [HE.out]; exact Pu.out.pt (HTn.out rfl)
                                · rw [HE.out]
                                  exact (HNA.out.congr (g := Vd.strike (qi M) r k r) (fun j hj => Vd.D8 (by omega))).no (Vd.VF _ _ _)
                              case measure => simp [intOf]; omega
                            · go_wp2
                              go_roundw
                              case rel => exact ⟨more, n + 1, k, k + 1, M, rfl, by go_num, rfl, by go_num, by omega, yV, HH, tH, Pu, Hm1, fun h => ⟨(SD.out h).1, (SD.out h).2.1, (SD.out h).2.2.step (fun _ => HTy.out rfl)⟩, HNA.out.yes HX.out⟩
                              case measure => simp [intOf]; omega
                    · have hk2 : k = T.length := by omega
                      subst hk2
                      have hle : Hid (cnt M ≤ cnt Mp) := by
                        cases more
                        · rw [(SD.out rfl).1]; exact Nat.le_refl _
                        · exact Nat.le_of_lt (Hm1.out rfl)
                      have ahI : Hid (∀ s j, T.length ≤ j → qi M s j = false) := fun s j hj => Pt HH.out.width hj
                      by_cases P9 : n = 1
                      · subst P9
                        obtain ⟨hal, AY⟩ := HNA.out.pos (Nat.le_refl _)
                        obtain ⟨mr, hmr, hxa⟩ := aaW AY
                        obtain ⟨br, gr, ak8, V8, er, cr, afo, z8, Iu⟩ := HH.out.blk hmr
                        rw [tH.out] at er
                        simp only [Value.slice.injEq] at er
                        obtain ⟨rfl, -, rfl⟩ := er
                        have HH2 := jy (HH.out.store V8 hmr a false)
                        have HL2 : Hid ((M.set r (mr.set a false)).length = l.length) := by rw [List.length_set]; exact tH.out
                        have HE := jy (EZ (k := a) hmr)
                        have yU := jy (BU M r a mr hmr hxa)
                        have ahH : Hid (Up wo (wr.setCell ⟨br, a, none⟩ (.bool false))) := yV.out.setCell Iu _
                        have apx : Hid (Vd.AW (Vd.Ff l T) (qi (M.set r (mr.set a false)))) := by
                          rw [HE.out]
                          exact Pu.out.ring fun j hj => by
                            rcases Nat.lt_or_ge j T.length with q | q
                            · exact HNA.out.one rfl j q hj
                            · exact ahI.out r j q
                        have cka := z8.cell (xL hxa)
                        have ckf := fun i => z8.frozen i
                        have i3 : (0 : Int) ≤ (a : Int) := by omega
                        have i4 : (a : Int) < (T.length : Int) := by omega
                        clear hmr hxa V8 z8 Iu AY
                        go_wp2
                        go_roundw
                        case rel => exact ⟨true, r + 1, M.set r (mr.set a false), rfl, by go_num, by omega, ahH, HH2, HL2, apx, fun _ => Nat.lt_of_lt_of_le yU.out hle.out, by simp [Hid]⟩
                        case measure => simp [intOf]; omega
                      · have HU9 : Hid (more = false → M = Mp ∧ Vd.SC (qi M) (r + 1)) := fun h => by
                          obtain ⟨q1, q2, q3⟩ := SD.out h
                          refine ⟨q1, q2.step (fun k hk => ?_) (HNA.out.ring P9 (ahI.out r))⟩
                          rcases Nat.lt_or_ge k T.length with q | q
                          · exact q3 k q hk
                          · rw [ahI.out r k q] at hk; cases hk
                        have hn' : ((n : Int) == 1) = false := beq_eq_false_iff_ne.2 (by omega)
                        clear P9
                        go_wp2
                        go_roundw
                        case rel => exact ⟨more, r + 1, M, rfl, by go_num, by omega, yV, HH, tH, Pu, Hm1, HU9⟩
                        case measure => simp [intOf]; omega
                · have wV : r = l.length := by omega
                  subst wV
                  have Pf : Hid (cnt M + (if more = true then 1 else 0) ≤ gk - 1 ∧ gk - 1 < gk) := by
                    have h1 : cnt Mp + 1 ≤ gk := HN.out
                    cases more
                    · have := (SD.out rfl).1
                      subst this
                      exact ⟨by simp; omega, by omega⟩
                    · have := Hm1.out rfl
                      exact ⟨by simp; omega, by omega⟩
                  go_wp2
                  go_roundg (gk - 1)
                  case rel => exact ⟨more, M, rfl, yV, HH, tH, Pu, Pf.out.1, fun h => (SD.out h).2⟩
                  case measure => exact Pf.out.2
end Go.Proofs.YtcclepohmhdpbaaGreatDoor
