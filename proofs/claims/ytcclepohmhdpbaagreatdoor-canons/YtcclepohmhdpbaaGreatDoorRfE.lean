/- THE DOCUMENT's WALKS: points, In. -/
import Derived.Test.YtcclepohmhdpbaaGreatDoorRfD
import Derived.Test.YtcclepohmhdpbaaGreatDoorCnH
namespace Go.Proofs.YtcclepohmhdpbaaGreatDoor
set_option linter.all false
open Go.RowKit Go.Deep

theorem any_drop {α : Type} {f : α → Bool} {l : List α} {k : Nat} {x : α} (h : l[k]? = some x) : (l.drop k).any f = (f x || (l.drop (k + 1)).any f) := by rw [drop_at h, List.any_cons]
theorem any_done {α : Type} {f : α → Bool} {l : List α} {k : Nat} (h : l.length ≤ k) : (l.drop k).any f = false := by rw [List.drop_eq_nil_of_le h]; rfl
theorem crossD_of {s t : Vd.Seg} {M : Int} {X : Bool} (h : Vd.common s.1 s.2 t.1 t.2 = (M, X)) : Vd.crossD s t = (decide (M = 2) || X) := by unfold Vd.crossD; rw [h]

set_option maxRecDepth 4000 in
set_option maxHeartbeats 8000000 in
theorem pointsD_any (v u : Value) (a b : Ring) (w : World) (hv : Rd1 w v a) (hu : Rd1 w u b) (hr : a.length ≤ 1048576) (hr2 : b.length ≤ 1048576) (hc : Vd.CdR a) (hc2 : Vd.CdR b) :
    Calls Tryz.prog 129 #[v, u] w fun e w' => e = .returned (.bool (Vd.pointsD a b)) ∧ Up w w' := by
  obtain ⟨ao, cap, rfl, hm⟩ := hv
  obtain ⟨ao2, cap2, rfl, hm2⟩ := hu
  have HM := hide hm
  have HM2 := hide hm2
  have HC := hide hc
  have HC2 := hide hc2
  obtain ⟨f, hf⟩ : ∃ f, f = fun s => (Vd.segs b).any fun t => Vd.crossD s t := ⟨_, rfl⟩
  have HT : Hid (Vd.pointsD a b = !((Vd.segs a).any f)) := by subst hf; exact rfl
  have HF : Hid (∀ s, f s = (Vd.segs b).any fun t => Vd.crossD s t) := by subst hf; exact fun _ => rfl
  clear hm hm2 hc hc2 hf
  go_enter Tryz.func129, Tryz.ntmps129
  go_wp2
  go_loopw [5] (fun i wr => ∃ k : Nat, i = .int .i64 k ∧ k ≤ a.length ∧ Hid (Up w wr) ∧ Hid ((Vd.segs a).any f = ((Vd.segs a).drop k).any f)) (fun i _ => a.length - (intOf i).toNat)
  case atStart => exact ⟨0, rfl, Nat.zero_le _, Up.refl _, rfl⟩
  case round =>
    obtain ⟨k, rfl, hk, HU, HA⟩ := hrel
    by_cases hlt : k + 1 < a.length
    · obtain ⟨⟨ax, ay⟩, hpa⟩ := Pl.some_of_lt (show k < a.length by omega)
      obtain ⟨⟨bx, bY⟩, hpb⟩ := Pl.some_of_lt hlt
      obtain ⟨g, rfl, c0, c1⟩ := HM.out k _ hpa
      obtain ⟨g', e', d0, d1⟩ := HM.out (k + 1) _ hpb
      cases e'
      have C0 := hide c0
      have C1 := hide c1
      have D0 := hide d0
      have D1 := hide d1
      have ca := hide (HC.out _ (Pl.mem_of_some hpa))
      have cb := hide (HC.out _ (Pl.mem_of_some hpb))
      replace HA := hide (HA.out.trans (any_drop (Vd.segs_at hpa hpb)))
      rw [HF.out] at HA
      clear c0 c1 d0 d1 hpa hpb
      go_wp2
      go_loopw [6] (fun i wq => ∃ q : Nat, i = .int .i64 q ∧ q ≤ b.length ∧ Hid (Up w wq) ∧ Hid ((Vd.segs a).any f = (((Vd.segs b).drop q).any (fun t => Vd.crossD ((ax, ay), (bx, bY)) t) || ((Vd.segs a).drop (k + 1)).any f))) (fun i _ => b.length - (intOf i).toNat)
      case atStart => exact ⟨0, rfl, Nat.zero_le _, HU, HA⟩
      case round =>
        clear HU HA
        obtain ⟨q, rfl, hq, HU, HA⟩ := hrel
        by_cases hlq : q + 1 < b.length
        · obtain ⟨⟨cx, cy⟩, hpc⟩ := Pl.some_of_lt (show q < b.length by omega)
          obtain ⟨⟨dx, dy⟩, hpd⟩ := Pl.some_of_lt hlq
          obtain ⟨g', rfl, c0, c1⟩ := HM2.out q _ hpc
          obtain ⟨g'', e', d0, d1⟩ := HM2.out (q + 1) _ hpd
          cases e'
          obtain ⟨M, X, hM⟩ : ∃ M X, Vd.common (ax, ay) (bx, bY) (cx, cy) (dx, dy) = (M, X) := ⟨_, _, rfl⟩
          have cc := HC2.out _ (Pl.mem_of_some hpc)
          have cd := HC2.out _ (Pl.mem_of_some hpd)
          have HK := hide (fun w => common_is hM ca.out cb.out cc cd w)
          rw [any_drop (Vd.segs_at hpc hpd), crossD_of (s := ((ax, ay), (bx, bY))) (t := ((cx, cy), (dx, dy))) hM] at HA
          have s0 := cell_gr (HU.out.cell C0.out)
          have s1 := cell_gr (HU.out.cell C1.out)
          have s2 := cell_gr (HU.out.cell D0.out)
          have s3 := cell_gr (HU.out.cell D1.out)
          have t0 := cell_gr (HU.out.cell c0)
          have t1 := cell_gr (HU.out.cell c1)
          have t2 := cell_gr (HU.out.cell d0)
          have t3 := cell_gr (HU.out.cell d1)
          dsimp only at s0 s1 s2 s3 t0 t1 t2 t3
          have i1 : (0 : Int) ≤ (q : Int) := by omega
          have i2 : (q : Int) < (b.length : Int) := by omega
          have i3 : (q : Int) + 1 < (b.length : Int) := by omega
          have i4 : (0 : Int) ≤ (q : Int) + 1 := by omega
          have i5 : (0 : Int) ≤ (k : Int) := by omega
          have i6 : (k : Int) < (a.length : Int) := by omega
          have i7 : (k : Int) + 1 < (a.length : Int) := by omega
          have i8 : (0 : Int) ≤ (k : Int) + 1 := by omega
          clear c0 c1 d0 d1 hpc hpd hM cc cd
          go_wp2_with fail
          refine wp_region_up (by kernel_rfl) (by kernel_rfl) ?_
          repeat (first | go_big_quiet_step ((go_at_call 165; exact Calls.up_of (HK.out _))))
          refine wpQuiet_nil ?_
          rintro w3 ⟨⟨_, u3⟩, rfl⟩
          have HU3 := hide (HU.out.trans u3)
          clear u3 s0 s1 s2 s3 t0 t1 t2 t3
          by_cases h2 : M = 2
          · have HR : Hid (Vd.pointsD a b = false) := by rw [HT.out, HA.out]; simp [h2, Hid]
            subst h2
            go_wp2
            go_ret
            exact ⟨ret_b HR.out.symm, HU3.out⟩
          · have h2' := beq_eq_false_iff_ne.2 h2
            cases X
            · have HA2 : Hid ((Vd.segs a).any f = (((Vd.segs b).drop (q + 1)).any (fun t => Vd.crossD ((ax, ay), (bx, bY)) t) || ((Vd.segs a).drop (k + 1)).any f)) := by
                show _ = _
                rw [HA.out]; simp [h2]
              go_wp2
              go_roundw
              case rel => exact ⟨q + 1, by go_num, by omega, HU3, HA2⟩
              case measure => simp [intOf]; omega
            · have HR : Hid (Vd.pointsD a b = false) := by rw [HT.out, HA.out]; simp [Hid]
              go_wp2
              go_ret
              exact ⟨ret_b HR.out.symm, HU3.out⟩
        · have HA2 : Hid ((Vd.segs a).any f = ((Vd.segs a).drop (k + 1)).any f) := by
            show _ = _
            rw [HA.out, any_done (by rw [Vd.segs_len]; omega)]; rfl
          go_wp2
          go_roundw
          case rel => exact ⟨k + 1, by go_num, by omega, HU, HA2⟩
          case measure => simp [intOf]; omega
    · have HR : Hid (Vd.pointsD a b = true) := by
        show _ = _
        rw [HT.out, HA.out, any_done (by rw [Vd.segs_len]; omega)]; rfl
      go_wp2
      go_ret
      exact ⟨ret_b HR.out.symm, HU.out⟩

/-! ### In -/
theorem inL_zero {s : Int} {r : Ring} {t : List Ring} {p : Vd.Spot} (h : Vd.inRing r p = 0) (hs : 0 ≤ s) : Vd.inL s (r :: t) p = 0 := by unfold Vd.inL; rw [if_pos ⟨h, hs⟩]
theorem inL_one {s : Int} {r : Ring} {t : List Ring} {p : Vd.Spot} (h : Vd.inRing r p = 1) : Vd.inL s (r :: t) p = -1 := by unfold Vd.inL; rw [if_neg (by rw [h]; omega), if_pos h]
theorem inL_go {s : Int} {r : Ring} {t : List Ring} {p : Vd.Spot} (h : ¬ (Vd.inRing r p = 0 ∧ 0 ≤ s)) (h1 : Vd.inRing r p ≠ 1) : Vd.inL s (r :: t) p = Vd.inL s t p := by conv => lhs; unfold Vd.inL; rw [if_neg h, if_neg h1]
theorem inRing_is {v : Value} {r : Ring} {p : Vd.Spot} {w : World} {k : Int} (h : Vd.inRing r p = k) (hv : Rd1 w v r) (hr : r.length ≤ 1048576) (hc : Vd.CdR r) (hp : Vd.Sp p) :
    Calls Tryz.prog 164 #[v, ptV p.1, .int .i64 p.2] w fun e w' => e = .returned (.int .i64 k) ∧ Up w w' := by
  have := inRing_any v r p w hv hr hc hp; rwa [h] at this

/-- Lists of rings that lie from a place of their block on. -/
def Rdo (o : Nat) (w : World) (v : Value) (l : Poly) : Prop :=
  ∃ ao cap, v = .slice ao l.length cap ∧ ∀ i r, l[i]? = some r → ∃ b u, ao = some ⟨b, o, none⟩ ∧ w.cell? ⟨b, o + i, none⟩ = some u ∧ Rd1 w u r
theorem Rdo.up {o : Nat} {w w' : World} {v : Value} {l : Poly} (h : Rdo o w v l) (k : Up w w') : Rdo o w' v l := by
  obtain ⟨ao, cap, e, h⟩ := h
  exact ⟨ao, cap, e, fun i p hp => by obtain ⟨b, u, e1, c, q⟩ := h i p hp; exact ⟨b, u, e1, k.cell c, q.up k⟩⟩
theorem Rd2.o {w : World} {v : Value} {l : Poly} (h : Rd2 w v l) : Rdo 0 w v l := by
  obtain ⟨ao, cap, e, h⟩ := h
  exact ⟨ao, cap, e, fun i p hp => by obtain ⟨b, u, e1, c, q⟩ := h i p hp; exact ⟨b, u, e1, by rw [Nat.zero_add]; exact c, q⟩⟩
set_option maxRecDepth 4000 in
set_option maxHeartbeats 8000000 in
theorem in_any {o : Nat} (v : Value) (r0 : Ring) (t : List Ring) (p : Vd.Spot) (w : World) (hv : Rdo o w v (r0 :: t)) (hl : t.length ≤ 1048575) (hr : ∀ r ∈ r0 :: t, r.length ≤ 1048576) (hc : ∀ r ∈ r0 :: t, Vd.CdR r) (hp : Vd.Sp p) :
    Calls Tryz.prog 149 #[v, ptV p.1, .int .i64 p.2] w fun e w' => e = .returned (.int .i64 (Vd.inP (r0 :: t) p)) ∧ Up w w' := by
  obtain ⟨ao, cap, rfl, hm⟩ := hv
  have HM := hide hm
  have HC := hide hc
  have HP := hide hp
  have HL := hide hr
  clear hm hc hp hr
  obtain ⟨⟨x, y⟩, d⟩ := p
  obtain ⟨bk, u0, e0, cu, hu0⟩ := HM.out 0 r0 rfl
  subst e0
  rw [Nat.add_zero] at cu
  obtain ⟨ao1, cap1, rfl, -⟩ := hu0
  obtain ⟨S, hS⟩ : ∃ S, Vd.inRing r0 ((x, y), d) = S := ⟨_, rfl⟩
  have HT : Hid (Vd.inP (r0 :: t) ((x, y), d) = Vd.inL S t ((x, y), d)) := by subst hS; exact rfl
  have HS := hide hS
  have R0 := hide (new_row (w := w) (o := .cells #[.int .i64 x, .int .i64 y] 32) (vs := [.int .i64 x, .int .i64 y]) rfl)
  have HU0 : Hid (Up w (w.alloc (.cells #[.int .i64 x, .int .i64 y] 32))) := (Up.refl _).alloc _
  have s0 := cell_gr (HU0.out.cell cu)
  have q0 := R0.out.gr (i := 0) rfl
  have q1 := R0.out.gr (i := 1) rfl
  have HK : Hid (∀ g : Gr (w.alloc (.cells #[.int .i64 x, .int .i64 y] 32)), Calls Tryz.prog 164 #[.slice ao1 r0.length cap1, ptV (x, y), .int .i64 d] g.v fun e w' => e = .returned (.int .i64 S) ∧ Up g.v w') := fun g =>
    inRing_is (p := ((x, y), d)) HS.out (by
      obtain ⟨bk', u', e', cu', hu'⟩ := HM.out 0 r0 rfl
      cases e'
      rw [Nat.add_zero] at cu'
      rw [cu] at cu'
      cases cu'
      exact (hu'.up HU0.out).up g.up) (HL.out _ (by simp)) (HC.out _ (by simp)) HP.out
  simp only [List.length_cons, ptV] at *
  have i0 : (0 : Int) < (t.length : Int) + 1 := by omega
  clear cu hS
  go_enter Tryz.func149, Tryz.ntmps149
  go_wp2_with fail
  refine wp_region_up (by kernel_rfl) (by kernel_rfl) ?_
  repeat (first | go_big_quiet_step ((go_at_call 164; exact Calls.up_of (HK.out _))))
  refine wpQuiet_nil ?_
  rintro w3 ⟨⟨_, u3⟩, rfl⟩
  replace HU0 := hide (HU0.out.trans u3)
  replace R0 := hide (R0.out.up u3)
  clear u3 s0 q0 q1 HK i0
  go_wp2
  go_loopw [8] (fun i wr => ∃ k : Nat, i = .int .i64 (k + 1 : Nat) ∧ k ≤ t.length ∧ Hid (Up w wr) ∧ Hid (VRow wr w.heap.size 32 [.int .i64 x, .int .i64 y]) ∧ Hid (Vd.inP (r0 :: t) ((x, y), d) = Vd.inL S (t.drop k) ((x, y), d))) (fun i _ => t.length + 1 - (intOf i).toNat)
  case atStart => exact ⟨0, rfl, Nat.zero_le _, HU0, R0, HT⟩
  case round =>
    clear HU0 R0
    obtain ⟨k, rfl, hk, HU, R0, HE⟩ := hrel
    by_cases hlt : k < t.length
    · obtain ⟨r, hr⟩ := Pl.some_of_lt hlt
      obtain ⟨bk', u', e', cu, hu'⟩ := HM.out (k + 1) r (by simpa using hr)
      cases e'
      obtain ⟨ao2, cap2, rfl, hu2⟩ := hu'
      obtain ⟨M, hM⟩ : ∃ M, Vd.inRing r ((x, y), d) = M := ⟨_, rfl⟩
      rw [drop_at hr] at HE
      have hmem : r ∈ r0 :: t := List.mem_cons_of_mem _ (Pl.mem_of_some hr)
      have HK : Hid (∀ g : Gr wr, Calls Tryz.prog 164 #[.slice ao2 r.length cap2, .agg #[.int .i64 x, .int .i64 y], .int .i64 d] g.v fun e w' => e = .returned (.int .i64 M) ∧ Up g.v w') := fun g =>
        inRing_is (p := ((x, y), d)) hM ((Rd1.up ⟨ao2, cap2, rfl, hu2⟩ HU.out).up g.up) (HL.out _ hmem) (HC.out _ hmem) HP.out
      have HM3 := hide hM
      have s0 := cell_gr (HU.out.cell cu)
      have q0 := R0.out.gr (i := 0) rfl
      have q1 := R0.out.gr (i := 1) rfl
      have i1 : (0 : Int) ≤ (k : Int) + 1 := by omega
      have i2 : (k : Int) + 1 < (t.length : Int) + 1 := by omega
      have i3 : (k : Int) < (t.length : Int) := by omega
      try dsimp only at s0
      clear hu2 cu hr hM hmem
      go_wp2_with fail
      refine wp_region_up (by kernel_rfl) (by kernel_rfl) ?_
      repeat (first | go_big_quiet_step ((go_at_call 164; exact Calls.up_of (HK.out _))))
      refine wpQuiet_nil ?_
      rintro w3 ⟨⟨_, u3⟩, rfl⟩
      replace HU := hide (HU.out.trans u3)
      replace R0 := hide (R0.out.up u3)
      clear u3 s0 q0 q1 HK i1 i2 i3
      by_cases h0 : M = 0
      · subst h0
        by_cases hs : 0 ≤ S
        · replace HE := hide (HE.out.trans (inL_zero HM3.out hs))
          go_wp2
          go_ret
          exact ⟨ret_i HE.out.symm, HU.out⟩
        · replace HE := hide (HE.out.trans (inL_go (fun h => hs h.2) (by rw [HM3.out]; omega)))
          go_wp2
          go_roundw
          case rel => exact ⟨k + 1, by go_num, by omega, HU, R0, HE⟩
          case measure => simp [intOf]; omega
      · have h0' := beq_eq_false_iff_ne.2 h0
        by_cases h1 : M = 1
        · subst h1
          replace HE := hide (HE.out.trans (inL_one HM3.out))
          go_wp2
          go_ret
          exact ⟨ret_i HE.out.symm, HU.out⟩
        · have h1' := beq_eq_false_iff_ne.2 h1
          replace HE := hide (HE.out.trans (inL_go (fun h => h0 (HM3.out ▸ h.1)) (by rw [HM3.out]; exact h1)))
          go_wp2
          go_roundw
          case rel => exact ⟨k + 1, by go_num, by omega, HU, R0, HE⟩
          case measure => simp [intOf]; omega
    · rw [List.drop_eq_nil_of_le (by omega)] at HE
      have i3 : ¬ (k : Int) < (t.length : Int) := by omega
      go_wp2
      go_ret
      exact ⟨ret_i HE.out.symm, HU.out⟩
end Go.Proofs.YtcclepohmhdpbaaGreatDoor
