/- THE PROGRAM's BYTES, READ: polygons, sets. -/
import Derived.Test.YtcclepohmhdpbaaBnRing
namespace Go.Proofs.Ytcclepohmhdpbaa
set_option linter.all false
open Go.RowKit Go.Deep

set_option maxRecDepth 100000 in
set_option maxHeartbeats 4000000 in
theorem rpoly_any (l : List UInt8) (o0 : Nat) (off : Bool) (rb : Nat) (w : World) (hr : RB w rb l o0 false off) (hl : l.length ≤ 6000) :
    Calls Try.prog 26 #[.pointer (some ⟨rb, 0, none⟩)] w fun e w' => ∃ (x : L2) (l' : List UInt8) (o : Nat) (bad off' : Bool), e = .returned x.v ∧ x.ok w' ∧ RB w' rb l' o bad off' ∧ Fr (· = rb) w w' ∧ Bn.poly l off = (if bad = true then none else some (x.pts, l', off')) ∧ l'.length ≤ 6000 := by
  have HR := hide hr
  clear hr
  go_enter Try.func26, Try.ntmps26
  go_wp2_with fail
  refine (rgeom_any 3 (by omega) (by omega) l o0 off rb _ HR.out hl).mono ?_
  rintro e w1 ⟨N, l1, o1, bad1, rfl, h1, u1, hcut, hN, hl1⟩
  have HQ : Hid (Bn.poly l off = if bad1 = true then none else Bn.pre [] (Bn.many (Bn.ring ((o1 : Int) == 1)) N l1 off)) := by
    show _ = _
    unfold Bn.poly
    rw [hcut]
    cases bad1
    · show Bn.many (Bn.ring ((o1 : Int) == 1)) N l1 off = _
      rw [Bn.pre_nil]; rfl
    · rfl
  replace h1 := hide h1
  replace u1 := hide u1
  clear hcut
  go_wp2_with fail
  go_loopw [3, 5] (fun v i wr => ∃ (k : Nat) (rs : List L1) (l' : List UInt8) (o : Nat) (bad off' : Bool) (u : Value), k ≤ N ∧ i = .int .u64 k ∧ u = v ∧ Hid (wr.ownsRow w.heap.size 35 1 u rs.length (rs.map L1.v)) ∧ Hid (∀ y ∈ rs, y.ok wr) ∧ Hid (RB wr rb l' o bad off') ∧ Hid (Fr (· = rb) w wr) ∧ rs.length ≤ 6001 ∧ l'.length ≤ 6000 ∧ Hid (bad = false → rs.length + l'.length ≤ 6000) ∧ Hid (Bn.poly l off = if bad = true then none else Bn.pre (rs.map L1.r) (Bn.many (Bn.ring ((o1 : Int) == 1)) (N - k) l' off')) ∧ Hid (o = o1)) (fun _ i _ => N - (intOf i).toNat)
  case atStart => exact ⟨0, [], l1, o1, bad1, off, _, Nat.zero_le _, rfl, rfl, World.ownsRow_nil _ _ _ _, by simp [Hid], h1, u1, by simp, hl1, fun _ => by simpa using hl1, HQ, rfl⟩
  case round =>
    obtain ⟨k, rs, l2, o2, bad2, off2, v, hk, rfl, rfl, HO, HY, HB, HF, hr2, hl2, HS, HT, HK⟩ := hrel
    have c2 := HB.out.c2
    by_cases hlt : k < N
    · cases bad2
      · have hsum := HS.out rfl
        have HT2 : Hid (Bn.poly l off = Bn.pre (rs.map L1.r) (Bn.many (Bn.ring ((o1 : Int) == 1)) (N - (k + 1) + 1) l2 off2)) := by
          rw [HT.out, show N - k = N - (k + 1) + 1 by omega]; exact rfl
        clear HS HT
        go_wp2_with fail
        refine (rring_any ((o1 : Int) == 1) l2 o2 off2 rb _ HB.out hl2 (by rw [HK.out])).mono ?_
        rintro e w4 ⟨⟨xv, xr⟩, l4, b4, o4, rfl, hx, h4, u4, p4, hl4⟩
        obtain ⟨xa, xn, xc, rfl⟩ : ∃ a n c, xv = .slice a n c := own_shape hx
        have HO4 : Hid (w4.ownsRow w.heap.size 35 1 v rs.length (rs.map L1.v)) := own_fr HO.out u4 fun g hg e => own_row_ne HO.out HB.out (by decide) (e ▸ hg)
        have HY4 : Hid (∀ y ∈ rs, y.ok w4) := fun y hy => (HY.out y hy).fr u4 fun b hb e => (HY.out y hy).row_ne HB.out (by decide) (e ▸ hb)
        have HU := hide u4
        replace h4 := hide h4
        replace hx := hide hx
        replace p4 := hide p4
        have HOA := hide (HO4.out.alloc (.cells #[.slice xa xn xc] 35))
        have hrb : Hid (rs.length ≤ 1073741824) := by show _ ≤ _; omega
        have hsz := hide (HF.out.trans HU.out).size
        clear u4 c2
        go_wp2_with (at_builtin; refine wpList_app el_rings rfl (.tmp 23) (.tmp 25) rfl w.heap.size _ _ _ (by rfl) HOA.out w4.heap.size [.slice xa xn xc] (by rfl) rfl (heap_alloc_new w4 _) (by intro u hu; simp at hu; subst hu; rfl) hrb.out (by simp; have := hsz.out; omega) ?_; intro g cap w5 hown5 hg5 hat5 hlt5; replace hown5 := hide hown5; replace hg5 := hide hg5; clear hat5 hlt5)
        go_roundw
        case rel =>
          refine ⟨k + 1, rs ++ [⟨.slice xa xn xc, xr⟩], l4, o2, b4, o4, _, by omega, by go_num, rfl, ?_, ?_, ?_, ?_, by simp; omega, hl4, ?_, ?_, HK⟩
          · rw [List.map_append, List.length_append]; exact hown5.out
          · intro y hy
            have hA := (Up.refl w4).alloc (.cells #[.slice xa xn xc] 35)
            rcases List.mem_append.1 hy with hy | hy
            · exact ((HY4.out y hy).up hA).grown HOA.out (by decide) hg5.out
            · simp at hy; subst hy
              exact (hx.out.up hA).grown HOA.out (by decide) hg5.out
          · exact VRow.grown (VRow.alloc h4.out _) hg5.out (own_row_ne HOA.out (VRow.alloc h4.out _) (by decide))
          · exact ((HF.out.trans HU.out).alloc _).grown hg5.out fun k hk => .inr (own_lt HO.out hk).1
          · intro e
            subst e
            have := (Bn.ring_lt p4.out).1
            simp; omega
          · rw [List.map_append]
            exact Bn.go_on HT2.out p4.out
        case measure => simp [intOf]; omega
      · have HT2 : Hid (Bn.poly l off = none) := HT.out
        clear HS HT
        go_wp2
        go_ret
        exact ⟨⟨v, rs⟩, l2, o2, true, off2, rfl, ⟨own_base HO.out (Nat.zero_le _), HY.out⟩, HB.out, HF.out, HT2.out, hl2⟩
    · have hkN : N - k = 0 := by omega
      rw [hkN] at HT
      go_wp2
      go_ret
      exact ⟨⟨v, rs⟩, l2, o2, bad2, off2, rfl, ⟨own_base HO.out (Nat.zero_le _), HY.out⟩, HB.out, HF.out, by rw [HT.out]; cases bad2 <;> simp [Bn.many_zero, L2.pts], hl2⟩

set_option maxRecDepth 100000 in
set_option maxHeartbeats 4000000 in
theorem rset_any (l : List UInt8) (o0 : Nat) (off : Bool) (rb : Nat) (w : World) (hr : RB w rb l o0 false off) (hl : l.length ≤ 6000) (hoff : off = false) :
    Calls Try.prog 18 #[.pointer (some ⟨rb, 0, none⟩)] w fun e w' => ∃ (x : L3) (l' : List UInt8) (o : Nat) (bad off' : Bool), e = .returned x.v ∧ x.ok w' ∧ RB w' rb l' o bad off' ∧ Fr (· = rb) w w' ∧ Bn.set l = (if bad = true then none else some (x.m, l', off')) ∧ l'.length ≤ 6000 := by
  have HR := hide hr
  clear hr
  go_enter Try.func18, Try.ntmps18
  go_wp2_with fail
  refine (rgeom_any 6 (by omega) (by omega) l o0 off rb _ HR.out hl).mono ?_
  rintro e w1 ⟨N, l1, o1, bad1, rfl, h1, u1, hcut, hN, hl1⟩
  have HQ : Hid (Bn.set l = if bad1 = true then none else Bn.pre [] (Bn.many Bn.poly N l1 off)) := by
    show _ = _
    unfold Bn.set
    rw [hcut]
    cases bad1
    · show Bn.many Bn.poly N l1 false = _
      rw [Bn.pre_nil, hoff]; rfl
    · rfl
  replace h1 := hide h1
  replace u1 := hide u1
  clear hcut
  go_wp2_with fail
  go_loopw [3, 5] (fun v i wr => ∃ (k : Nat) (rs : List L2) (l' : List UInt8) (o : Nat) (bad off' : Bool) (u : Value), k ≤ N ∧ i = .int .u64 k ∧ u = v ∧ Hid (wr.ownsRow w.heap.size 34 1 u rs.length (rs.map L2.v)) ∧ Hid (∀ y ∈ rs, y.ok wr) ∧ Hid (RB wr rb l' o bad off') ∧ Hid (Fr (· = rb) w wr) ∧ rs.length ≤ 6001 ∧ l'.length ≤ 6000 ∧ Hid (bad = false → rs.length + l'.length ≤ 6000) ∧ Hid (Bn.set l = if bad = true then none else Bn.pre (rs.map L2.pts) (Bn.many Bn.poly (N - k) l' off')) ∧ Hid (True)) (fun _ i _ => N - (intOf i).toNat)
  case atStart => exact ⟨0, [], l1, o1, bad1, off, _, Nat.zero_le _, rfl, rfl, World.ownsRow_nil _ _ _ _, by simp [Hid], h1, u1, by simp, hl1, fun _ => by simpa using hl1, HQ, trivial⟩
  case round =>
    obtain ⟨k, rs, l2, o2, bad2, off2, v, hk, rfl, rfl, HO, HY, HB, HF, hr2, hl2, HS, HT, HK⟩ := hrel
    have c2 := HB.out.c2
    by_cases hlt : k < N
    · cases bad2
      · have hsum := HS.out rfl
        have HT2 : Hid (Bn.set l = Bn.pre (rs.map L2.pts) (Bn.many Bn.poly (N - (k + 1) + 1) l2 off2)) := by
          rw [HT.out, show N - k = N - (k + 1) + 1 by omega]; exact rfl
        clear HS HT
        go_wp2_with fail
        refine (rpoly_any l2 o2 off2 rb _ HB.out hl2).mono ?_
        rintro e w4 ⟨⟨xv, xr⟩, l4, o3, b4, o4, rfl, hx, h4, u4, p4, hl4⟩
        obtain ⟨xa, xn, xc, rfl⟩ : ∃ a n c, xv = .slice a n c := own_shape hx.row
        have HO4 : Hid (w4.ownsRow w.heap.size 34 1 v rs.length (rs.map L2.v)) := own_fr HO.out u4 fun g hg e => own_row_ne HO.out HB.out (by decide) (e ▸ hg)
        have HY4 : Hid (∀ y ∈ rs, y.ok w4) := fun y hy => (HY.out y hy).fr u4 fun b hb e => (HY.out y hy).row_ne HB.out (by decide) (by decide) (e ▸ hb)
        have HU := hide u4
        replace h4 := hide h4
        replace hx := hide hx
        replace p4 := hide p4
        have HOA := hide (HO4.out.alloc (.cells #[.slice xa xn xc] 34))
        have hrb : Hid (rs.length ≤ 1073741824) := by show _ ≤ _; omega
        have hsz := hide (HF.out.trans HU.out).size
        clear u4 c2
        go_wp2_with (at_builtin; refine wpList_app el_polys rfl (.tmp 23) (.tmp 25) rfl w.heap.size _ _ _ (by rfl) HOA.out w4.heap.size [.slice xa xn xc] (by rfl) rfl (heap_alloc_new w4 _) (by intro u hu; simp at hu; subst hu; rfl) hrb.out (by simp; have := hsz.out; omega) ?_; intro g cap w5 hown5 hg5 hat5 hlt5; replace hown5 := hide hown5; replace hg5 := hide hg5; clear hat5 hlt5)
        go_roundw
        case rel =>
          refine ⟨k + 1, rs ++ [⟨.slice xa xn xc, xr⟩], l4, o3, b4, o4, _, by omega, by go_num, rfl, ?_, ?_, ?_, ?_, by simp; omega, hl4, ?_, ?_, trivial⟩
          · rw [List.map_append, List.length_append]; exact hown5.out
          · intro y hy
            have hA := (Up.refl w4).alloc (.cells #[.slice xa xn xc] 34)
            rcases List.mem_append.1 hy with hy | hy
            · exact ((HY4.out y hy).up hA).grown HOA.out (by decide) (by decide) hg5.out
            · simp at hy; subst hy
              exact (hx.out.up hA).grown HOA.out (by decide) (by decide) hg5.out
          · exact VRow.grown (VRow.alloc h4.out _) hg5.out (own_row_ne HOA.out (VRow.alloc h4.out _) (by decide))
          · exact ((HF.out.trans HU.out).alloc _).grown hg5.out fun k hk => .inr (own_lt HO.out hk).1
          · intro e
            subst e
            have := (Bn.poly_lt p4.out).1
            simp; omega
          · rw [List.map_append]
            exact Bn.go_on HT2.out p4.out
        case measure => simp [intOf]; omega
      · have HT2 : Hid (Bn.set l = none) := HT.out
        clear HS HT
        go_wp2
        go_ret
        exact ⟨⟨v, rs⟩, l2, o2, true, off2, rfl, ⟨own_base HO.out (Nat.zero_le _), HY.out⟩, HB.out, HF.out, HT2.out, hl2⟩
    · have hkN : N - k = 0 := by omega
      rw [hkN] at HT
      go_wp2
      go_ret
      exact ⟨⟨v, rs⟩, l2, o2, bad2, off2, rfl, ⟨own_base HO.out (Nat.zero_le _), HY.out⟩, HB.out, HF.out, by rw [HT.out]; cases bad2 <;> simp [Bn.many_zero, L3.m], hl2⟩
end Go.Proofs.Ytcclepohmhdpbaa
