import Derived.Test.YtcclepohmhdpbaaGreatDoorTvB
import Derived.Test.YtcclepohmhdpbaaGreatDoorDec
import Derived.Test.YtcclepohmhdpbaaGreatDoorLaw
/- THE DOCUMENT's TEXTS, READ: textRings. -/
namespace Go.Proofs.YtcclepohmhdpbaaGreatDoor
set_option linter.all false
open Go.RowKit Go.Deep
attribute [local go_sem ↓] Go.wp_at_zero Go.wp_at_succ

def dRgsPost (l : List UInt8) (bad0 wide0 : Bool) (b : Nat) (w : World) (e : Ending) (w' : World) : Prop :=
  ∃ (x : L2) (l' : List UInt8) (bad wide : Bool), e = .returned x.v ∧ x.ok w' ∧ SD w' b l' bad wide ∧ Fr (· = b) w w' ∧ (if bad0 = true then none else Wt.poly l wide0) = (if bad = true then none else some (x.pts, l', wide)) ∧ l'.length ≤ 6000

set_option maxRecDepth 100000 in
set_option maxHeartbeats 4000000 in
theorem dRgs_any (l : List UInt8) (bad0 wide0 : Bool) (b : Nat) (w : World) (hr : SD w b l bad0 wide0) (hl : l.length ≤ 6000) :
    Calls Tryz.prog 112 #[.pointer (some ⟨b, 0, none⟩)] w (dRgsPost l bad0 wide0 b w) := by
  have HR := hide hr
  clear hr
  go_enter Tryz.func112, Tryz.ntmps112
  go_wp2_with fail
  refine (sign_any 40 l bad0 wide0 b _ HR.out).mono ?_
  rintro e w1 ⟨rfl, h1, u1⟩
  have HT := hide (Wt.begin_ Wt.ring l wide0 bad0)
  have hl1 : (Tx.aft [40] (Tx.bare l)).length ≤ l.length := Nat.le_trans (Tx.aft_le _ _) (Tx.bare_le l)
  obtain ⟨l1, hl1e⟩ : ∃ l1, l1 = Tx.aft [40] (Tx.bare l) := ⟨_, rfl⟩
  obtain ⟨b1, hb1e⟩ : ∃ b1, b1 = (bad0 || !Tx.pre [40] (Tx.bare l)) := ⟨_, rfl⟩
  rw [← hl1e, ← hb1e] at h1 HT
  have hl1b : (Tx.aft [40] (Tx.bare l)).length ≤ (Tx.bare l).length := Tx.aft_le _ _
  rw [← hl1e] at hl1 hl1b
  have HQ := hide (Q2.start h1 (Nat.le_trans hl1 hl))
  have HF1 := hide u1
  clear h1 u1 hl1e hb1e
  go_wp2_with fail
  go_loopw [3] (fun v wr => ∃ (k : Nat) (r : List L1) (l' : List UInt8) (bad wide : Bool) (u : Value), u = v ∧ l'.length ≤ k ∧ Hid (Q2 w1 wr b u r l' bad wide) ∧ Hid (bad = true → r = []) ∧ Hid ((if bad0 = true then none else Wt.poly l wide0) = if bad = true then none else Bn.pre (r.map L1.r) (Wt.items Wt.ring (k + 1) l' wide))) (fun v _ => 7000 - lenS v)
  case atStart => exact ⟨(Tx.bare l).length, [], l1, b1, wide0, _, rfl, hl1b, HQ, fun _ => rfl, HT⟩
  case round =>
    obtain ⟨wo, hw⟩ : ∃ x, x = wr := ⟨_, rfl⟩
    subst hw
    obtain ⟨k, r, l2, bad, wide, v, rfl, hk, HI, HB, HT2⟩ := hrel
    have h6 : r.length ≤ 6000 := by
      cases bad
      · have := HI.out.sum rfl; omega
      · rw [HB.out rfl]; simp
    have hl2 := HI.out.rest
    obtain ⟨va, vn, vc, rfl⟩ : ∃ a n c, v = .slice a n c := own_shape HI.out.own
    obtain rfl : vn = r.length := by obtain ⟨a, c, e⟩ := own_len HI.out.own; cases e; rfl
    go_wp2_with fail
    refine (dPts_any l2 bad wide b _ HI.out.sd hl2).mono ?_
    rintro e w4 ⟨⟨xv, xr⟩, l4, b4, o4, rfl, hx, h4, u4, p4, hl4⟩
    obtain ⟨xa, xn, xc, rfl⟩ : ∃ a n c, xv = .slice a n c := own_shape hx
    have HP : Hid ((if bad = true then none else Wt.ring l2 wide) = (if b4 = true then none else some (xr, l4, o4)) ∧ (b4 = false → l4.length + 1 ≤ l2.length)) := by
      refine ⟨p4, fun e => ?_⟩
      cases bad
      · rw [e] at p4
        exact (Wt.ring_lt p4).1
      · rw [e] at p4
        simp at p4
    have HF : Hid (Fr (· = b) wo w4) := u4
    have HO : Hid (w4.ownsRow w1.heap.size 30 1 (.slice va r.length vc) r.length (r.map L1.v)) := own_fr HI.out.own HF.out fun g hg e => own_row_ne HI.out.own HI.out.sd (by decide) (e ▸ hg)
    have HX := hide hx
    replace h4 := hide h4
    clear u4 p4 hx
    have HOA := hide (HO.out.alloc (.cells #[.slice xa xn xc] 30))
    have hrb : Hid (r.length ≤ 1073741824) := by show _ ≤ _; omega
    have hsz := hide (HI.out.fr.trans HF.out).size
    have HLT : Hid (b4 = false → r.length + 1 + l4.length ≤ 6000) := fun e => by
      have h7 := HP.out.2 e
      cases bad
      · have := HI.out.sum rfl; omega
      · have := HP.out.1
        rw [e] at this
        simp at this
    go_wp2_with (first | (at_builtin; refine wpList_app el_rings rfl (.tmp 11) (.tmp 13) rfl w1.heap.size _ _ _ (by rfl) HOA.out w4.heap.size [.slice xa xn xc] (by rfl) rfl (heap_alloc_new w4 _) (by intro u hu; simp at hu; subst hu; rfl) hrb.out (by simp; have := hsz.out; omega) ?_; intro g cap w5 hown5 hg5 hat5 hlt5; have hq5 := hide (HI.out.step' h6 h4.out HF.out HX.out HLT.out hl4 hown5 hg5); clear hat5 hlt5 hown5 hg5) | (go_at_call 113; fail))
    have HG := Wt.go_on HT2.out HP.out.1
    obtain ⟨hg1, hg2⟩ := HG
    replace hg1 := hide hg1
    replace hg2 := hide hg2
    refine (comes_any 44 l4 b4 o4 b _ hq5.out.sd).mono ?_
    rintro e w6 ⟨rfl, hw6⟩
    replace hw6 := hw6.symm
    subst hw6
    cases hc : (!b4 && Tx.pre [44] (Tx.bare l4))
    · have HE := hide (hg2.out hc)
      clear hg1 hg2 hc
      go_wp2_with fail
      refine (sign_any 41 l4 b4 o4 b _ hq5.out.sd).mono ?_
      rintro e w7 ⟨rfl, h7, u7⟩
      have hq7 := hide (hq5.out.sd' h7 u7 (Nat.le_trans (Tx.aft_le _ _) (Tx.bare_le l4)) (fun e => by cases b4 <;> simp_all))
      clear h7 u7
      go_wp2
      go_ret
      exact ⟨⟨_, _⟩, _, _, _, rfl, ⟨own_base hq7.out.own (Nat.zero_le _), hq7.out.sub⟩, hq7.out.sd, HF1.out.trans hq7.out.fr, (by rw [HE.out]; simp [L2.pts]), Nat.le_trans (Nat.le_trans (Tx.aft_le _ _) (Tx.bare_le l4)) hl4⟩
    · have HE := hide (hg1.out hc)
      have hcc : b4 = false ∧ Tx.pre [44] (Tx.bare l4) = true := by cases b4 <;> simp_all
      obtain ⟨hc1, hc2⟩ := hcc
      subst hc1
      have hal := Wt.aft_len hc2
      have hbl := Tx.bare_le l4
      have h8 := HP.out.2 rfl
      clear hg1 hg2 hc
      go_wp2_with fail
      refine (sign_any 44 l4 false o4 b _ hq5.out.sd).mono ?_
      rintro e w7 ⟨rfl, h7, u7⟩
      rw [hc2] at h7
      have hq7 := hide (hq5.out.sd' h7 u7 (by omega) (fun _ => rfl))
      obtain ⟨k', rfl⟩ : ∃ k', k = k' + 1 := ⟨k - 1, by omega⟩
      clear h7 u7 hc2
      go_wp2
      go_roundw
      case rel => exact ⟨k', r ++ [(⟨.slice xa xn xc, xr⟩ : L1)], _, _, _, _, rfl, by omega, hq7, (fun e => by cases e), by rw [List.map_append]; exact HE⟩
      case measure => simp [lenS]; omega
end Go.Proofs.YtcclepohmhdpbaaGreatDoor

/- THE DOCUMENT's TEXTS, READ: textPolys. -/
namespace Go.Proofs.YtcclepohmhdpbaaGreatDoor
set_option linter.all false
open Go.RowKit Go.Deep
attribute [local go_sem ↓] Go.wp_at_zero Go.wp_at_succ

def dPlsPost (l : List UInt8) (bad0 wide0 : Bool) (b : Nat) (w : World) (e : Ending) (w' : World) : Prop :=
  ∃ (x : L3) (l' : List UInt8) (bad wide : Bool), e = .returned x.v ∧ x.ok w' ∧ SD w' b l' bad wide ∧ Fr (· = b) w w' ∧ (if bad0 = true then none else Wt.polys l wide0) = (if bad = true then none else some (x.m, l', wide)) ∧ l'.length ≤ 6000

set_option maxRecDepth 100000 in
set_option maxHeartbeats 4000000 in
theorem dPls_any (l : List UInt8) (bad0 wide0 : Bool) (b : Nat) (w : World) (hr : SD w b l bad0 wide0) (hl : l.length ≤ 6000) :
    Calls Tryz.prog 72 #[.pointer (some ⟨b, 0, none⟩)] w (dPlsPost l bad0 wide0 b w) := by
  have HR := hide hr
  clear hr
  go_enter Tryz.func72, Tryz.ntmps72
  go_wp2_with fail
  refine (sign_any 40 l bad0 wide0 b _ HR.out).mono ?_
  rintro e w1 ⟨rfl, h1, u1⟩
  have HT := hide (Wt.begin_ Wt.poly l wide0 bad0)
  have hl1 : (Tx.aft [40] (Tx.bare l)).length ≤ l.length := Nat.le_trans (Tx.aft_le _ _) (Tx.bare_le l)
  obtain ⟨l1, hl1e⟩ : ∃ l1, l1 = Tx.aft [40] (Tx.bare l) := ⟨_, rfl⟩
  obtain ⟨b1, hb1e⟩ : ∃ b1, b1 = (bad0 || !Tx.pre [40] (Tx.bare l)) := ⟨_, rfl⟩
  rw [← hl1e, ← hb1e] at h1 HT
  have hl1b : (Tx.aft [40] (Tx.bare l)).length ≤ (Tx.bare l).length := Tx.aft_le _ _
  rw [← hl1e] at hl1 hl1b
  have HQ := hide (Q3.start h1 (Nat.le_trans hl1 hl))
  have HF1 := hide u1
  clear h1 u1 hl1e hb1e
  go_wp2_with fail
  go_loopw [3] (fun v wr => ∃ (k : Nat) (r : List L2) (l' : List UInt8) (bad wide : Bool) (u : Value), u = v ∧ l'.length ≤ k ∧ Hid (Q3 w1 wr b u r l' bad wide) ∧ Hid (bad = true → r = []) ∧ Hid ((if bad0 = true then none else Wt.polys l wide0) = if bad = true then none else Bn.pre (r.map L2.pts) (Wt.items Wt.poly (k + 1) l' wide))) (fun v _ => 7000 - lenS v)
  case atStart => exact ⟨(Tx.bare l).length, [], l1, b1, wide0, _, rfl, hl1b, HQ, fun _ => rfl, HT⟩
  case round =>
    obtain ⟨wo, hw⟩ : ∃ x, x = wr := ⟨_, rfl⟩
    subst hw
    obtain ⟨k, r, l2, bad, wide, v, rfl, hk, HI, HB, HT2⟩ := hrel
    have h6 : r.length ≤ 6000 := by
      cases bad
      · have := HI.out.sum rfl; omega
      · rw [HB.out rfl]; simp
    have hl2 := HI.out.rest
    obtain ⟨va, vn, vc, rfl⟩ : ∃ a n c, v = .slice a n c := own_shape HI.out.own
    obtain rfl : vn = r.length := by obtain ⟨a, c, e⟩ := own_len HI.out.own; cases e; rfl
    go_wp2_with fail
    refine (dRgs_any l2 bad wide b _ HI.out.sd hl2).mono ?_
    rintro e w4 ⟨⟨xv, xr⟩, l4, b4, o4, rfl, hx, h4, u4, p4, hl4⟩
    obtain ⟨xa, xn, xc, rfl⟩ : ∃ a n c, xv = .slice a n c := own_shape hx.row
    have HP : Hid ((if bad = true then none else Wt.poly l2 wide) = (if b4 = true then none else some (L2.pts ⟨.slice xa xn xc, xr⟩, l4, o4)) ∧ (b4 = false → l4.length + 1 ≤ l2.length)) := by
      refine ⟨p4, fun e => ?_⟩
      cases bad
      · rw [e] at p4
        exact (Wt.poly_lt p4).1
      · rw [e] at p4
        simp at p4
    have HF : Hid (Fr (· = b) wo w4) := u4
    have HO : Hid (w4.ownsRow w1.heap.size 33 1 (.slice va r.length vc) r.length (r.map L2.v)) := own_fr HI.out.own HF.out fun g hg e => own_row_ne HI.out.own HI.out.sd (by decide) (e ▸ hg)
    have HX := hide hx
    replace h4 := hide h4
    clear u4 p4 hx
    have HOA := hide (HO.out.alloc (.cells #[.slice xa xn xc] 33))
    have hrb : Hid (r.length ≤ 1073741824) := by show _ ≤ _; omega
    have hsz := hide (HI.out.fr.trans HF.out).size
    have HLT : Hid (b4 = false → r.length + 1 + l4.length ≤ 6000) := fun e => by
      have h7 := HP.out.2 e
      cases bad
      · have := HI.out.sum rfl; omega
      · have := HP.out.1
        rw [e] at this
        simp at this
    go_wp2_with (first | (at_builtin; refine wpList_app el_multi rfl (.tmp 11) (.tmp 13) rfl w1.heap.size _ _ _ (by rfl) HOA.out w4.heap.size [.slice xa xn xc] (by rfl) rfl (heap_alloc_new w4 _) (by intro u hu; simp at hu; subst hu; rfl) hrb.out (by simp; have := hsz.out; omega) ?_; intro g cap w5 hown5 hg5 hat5 hlt5; have hq5 := hide (HI.out.step' h6 h4.out HF.out HX.out HLT.out hl4 hown5 hg5); clear hat5 hlt5 hown5 hg5) | (go_at_call 113; fail))
    have HG := Wt.go_on HT2.out HP.out.1
    obtain ⟨hg1, hg2⟩ := HG
    replace hg1 := hide hg1
    replace hg2 := hide hg2
    refine (comes_any 44 l4 b4 o4 b _ hq5.out.sd).mono ?_
    rintro e w6 ⟨rfl, hw6⟩
    replace hw6 := hw6.symm
    subst hw6
    cases hc : (!b4 && Tx.pre [44] (Tx.bare l4))
    · have HE := hide (hg2.out hc)
      clear hg1 hg2 hc
      go_wp2_with fail
      refine (sign_any 41 l4 b4 o4 b _ hq5.out.sd).mono ?_
      rintro e w7 ⟨rfl, h7, u7⟩
      have hq7 := hide (hq5.out.sd' h7 u7 (Nat.le_trans (Tx.aft_le _ _) (Tx.bare_le l4)) (fun e => by cases b4 <;> simp_all))
      clear h7 u7
      go_wp2
      go_ret
      exact ⟨⟨_, _⟩, _, _, _, rfl, ⟨own_base hq7.out.own (Nat.zero_le _), hq7.out.sub⟩, hq7.out.sd, HF1.out.trans hq7.out.fr, (by rw [HE.out]; simp [L3.m]), Nat.le_trans (Nat.le_trans (Tx.aft_le _ _) (Tx.bare_le l4)) hl4⟩
    · have HE := hide (hg1.out hc)
      have hcc : b4 = false ∧ Tx.pre [44] (Tx.bare l4) = true := by cases b4 <;> simp_all
      obtain ⟨hc1, hc2⟩ := hcc
      subst hc1
      have hal := Wt.aft_len hc2
      have hbl := Tx.bare_le l4
      have h8 := HP.out.2 rfl
      clear hg1 hg2 hc
      go_wp2_with fail
      refine (sign_any 44 l4 false o4 b _ hq5.out.sd).mono ?_
      rintro e w7 ⟨rfl, h7, u7⟩
      rw [hc2] at h7
      have hq7 := hide (hq5.out.sd' h7 u7 (by omega) (fun _ => rfl))
      obtain ⟨k', rfl⟩ : ∃ k', k = k' + 1 := ⟨k - 1, by omega⟩
      clear h7 u7 hc2
      go_wp2
      go_roundw
      case rel => exact ⟨k', r ++ [(⟨.slice xa xn xc, xr⟩ : L2)], _, _, _, _, rfl, by omega, hq7, (fun e => by cases e), by rw [List.map_append]; exact HE⟩
      case measure => simp [lenS]; omega
end Go.Proofs.YtcclepohmhdpbaaGreatDoor

/- THE DOCUMENT's TEXTS, READ: Text. -/
namespace Go.Proofs.YtcclepohmhdpbaaGreatDoor
set_option linter.all false
open Go.RowKit Go.Deep

theorem Tx.pre_short {k l : List UInt8} (h : l.length < k.length) : Tx.pre k l = false := by
  unfold Tx.pre
  refine beq_eq_false_iff_ne.2 fun e => ?_
  have := congrArg List.length e
  simp at this
  omega
theorem Wt.gap_lt (r : List UInt8) : decide ((Tx.bare r).length < r.length) = Wt.gap r := by
  have h := Tx.bare_gap r
  have := Tx.bare_le r
  cases hg : Wt.gap r
  · have := h.2 hg
    simp
    omega
  · have : ¬ (r.length - (Tx.bare r).length = 0) := fun e => by rw [h.1 e] at hg; cases hg
    simp
    omega

set_option maxRecDepth 100000 in
set_option maxHeartbeats 4000000 in
theorem dText_any (l : List UInt8) (w : World) (hl : l.length ≤ 6000) :
    Calls Tryz.prog 45 #[.string (bs l)] w (ReadPost (Wt.err l) (Wt.got l) w) := by
  have hbl := Tx.bare_le l
  obtain ⟨s, hs⟩ : ∃ s, s = Tx.bare l := ⟨_, rfl⟩
  rw [← hs] at hbl
  have HS := hide hs
  obtain ⟨e0, e1, e2, e3, e4, e5⟩ := bs_tells s
  have e4' := bs_toList (s.take 12)
  clear e1 e5 hs
  have HST : Hid (Wt.set l = if Tx.pre Wt.name s = true then Wt.rest (Tx.aft Wt.name s) else none) := by rw [HS.out]; exact rfl
  by_cases hlen : s.length < 12
  · have HN : Hid (Wt.set l = none) := by rw [HST.out, Tx.pre_short hlen]; exact rfl
    have HE : Hid (Wt.err l = 3) := by show _ = _; unfold Wt.err; rw [HN.out]
    clear HST
    unfold ReadPost
    go_enter Tryz.func45, Tryz.ntmps45
    go_wp2_with (go_at_call 70; refine (bare_any l _).mono ?_; rintro e w1 ⟨rfl, hw⟩; replace hw := hw.symm; subst hw; rw [← HS.out])
    go_ret2
    exact ⟨nil3, by rw [HE.out]; rfl, nil3_ok _, (fun e => by rw [HE.out] at e; cases e), Up.refl _⟩
  · by_cases hp : (s.take 12 == Wt.name) = true
    · have HP : Hid (Tx.pre Wt.name s = true) := hp
      have HA : Hid (Tx.aft Wt.name s = s.drop 12) := Tx.aft_t HP.out
      have HR : Hid (Wt.set l = Wt.rest (s.drop 12)) := by rw [HST.out, HP.out, if_pos rfl, HA.out]; exact rfl
      have hp' : (s.take 12 == [77, 85, 76, 84, 73, 80, 79, 76, 89, 71, 79, 78]) = true := hp
      obtain ⟨r, hr⟩ : ∃ r, r = s.drop 12 := ⟨_, rfl⟩
      have hrl : r.length ≤ 6000 := by rw [hr]; simp; omega
      have hbr := Tx.bare_le r
      obtain ⟨t, ht⟩ : ∃ t, t = Tx.bare r := ⟨_, rfl⟩
      have HT := hide ht
      rw [← hr] at HR
      rw [← ht] at hbr
      have q12 : (bs s).extract 12 s.length = bs r := by rw [e2, hr]
      have HNW := hide (VRow.new w [.string (bs r), .bool false, .bool false] 102)
      have z0 := bs_size r
      have z1 := bs_size t
      have e5t := bs_toList (t.take 5)
      have e6t : ∀ b, (bs t).extract 0 b = bs (t.take b) := bs_take t
      have e7t : ∀ a, (bs t).extract a t.length = bs (t.drop a) := bs_drop t
      clear hr ht hp HP HA HST e2
      have hcell := HNW.out.cell (i := 0) rfl
      by_cases hE : (Tx.pre Wt.empty t && Wt.gap r) = true
      · have hE2 := Bool.and_eq_true_iff.1 hE
        have HRS : Hid (Wt.set l = if false = true then none else some ([], t.drop 5, false)) := by
          rw [HR.out]
          unfold Wt.rest
          rw [← HT.out, hE, if_pos rfl, Tx.aft_t hE2.1]
          exact rfl
        have hlen5 : ¬ t.length < 5 := fun e => by rw [Tx.pre_short (k := Wt.empty) e] at hE2; cases hE2.1
        have g5 : (5 : Int) ≤ (t.length : Int) := by omega
        have h5 : (t.take 5 == [69, 77, 80, 84, 89]) = true := hE2.1
        have hlt : t.length < r.length := by
          have := Wt.gap_lt r
          rw [hE2.2, ← HT.out] at this
          simpa using this
        have HE := hide (Wt.err_of HRS.out)
        have HG := hide (Wt.got_of HRS.out rfl)
        have hr1 : SD (w.alloc (.cells #[.string (bs r), .bool false, .bool false] 102)) w.heap.size r false false := HNW.out
        have f0 := hr1.f 0
        have HSD := hide (hr1.rest (t.drop 5))
        have HSD2 : Hid (SD (w.alloc (.cells #[.string (bs (t.drop 5)), .bool false, .bool false] 102)) w.heap.size (t.drop 5) false false) := VRow.new w [.string (bs (t.drop 5)), .bool false, .bool false] _
        clear hE hE2 HR HRS hr1
        go_enter Tryz.func45, Tryz.ntmps45
        go_wp2_with (first
          | (go_at_call 70; refine (bare_any _ _).mono ?_; rintro e w1 ⟨rfl, hw⟩; replace hw := hw.symm; subst hw; first | rw [← HS.out] | rw [← HT.out])
          | (go_at_call 71; refine (done_any (t.drop 5) false false w.heap.size _ ?_).mono ?_; (first | exact HSD.out | exact HSD2.out); rintro e w2 ⟨rfl, -, u2⟩; replace u2 := hide u2))
        go_ret2
        refine ⟨nil3, by rw [HE.out]; rfl, nil3_ok _, (fun _ => HG.out.symm), ?_⟩
        first
          | exact (((Fr.of_up ((Up.refl w).alloc _)).then u2.out (T := (· = w.heap.size)) (S := fun x => w.heap.size ≤ x) (fun x _ e => by omega)).up (fun x hx => by omega))
          | exact ((((Fr.of_up ((Up.refl w).alloc _)).setNew (p := ⟨w.heap.size, 0, none⟩) (Nat.le_refl _) _).then u2.out (T := (· = w.heap.size)) (S := fun x => w.heap.size ≤ x) (fun x _ e => by omega)).up (fun x hx => by omega))
      · have hE' : (Tx.pre Wt.empty t && Wt.gap r) = false := by simpa using hE
        have HRS : Hid (Wt.set l = Wt.polys r false) := by
          rw [HR.out]
          unfold Wt.rest
          rw [← HT.out, hE']
          exact rfl
        have hcase : (t.length < 5) ∨ (¬ t.length < 5 ∧ (t.take 5 == [69, 77, 80, 84, 89]) = false) ∨ (¬ t.length < 5 ∧ (t.take 5 == [69, 77, 80, 84, 89]) = true ∧ ¬ t.length < r.length) := by
          by_cases h5 : t.length < 5
          · exact .inl h5
          · cases h6 : (t.take 5 == [69, 77, 80, 84, 89])
            · exact .inr (.inl ⟨h5, rfl⟩)
            · refine .inr (.inr ⟨h5, rfl, fun h7 => ?_⟩)
              have h8 : Tx.pre Wt.empty t = true := h6
              have h9 : Wt.gap r = true := by
                rw [← Wt.gap_lt r, ← HT.out]
                simpa using h7
              rw [h8, h9] at hE'
              cases hE'
        have hr1 : SD (w.alloc (.cells #[.string (bs r), .bool false, .bool false] 102)) w.heap.size r false false := HNW.out
        have HP := hide (dPls_any r false false w.heap.size _ hr1 hrl)
        clear hE hE' HR hr1
        rcases hcase with hc | ⟨hc, hc1⟩ | ⟨hc, hc1, hc2⟩
        all_goals
          go_enter Tryz.func45, Tryz.ntmps45
          go_wp2_with (first
            | (go_at_call 70; refine (bare_any _ _).mono ?_; rintro e w1 ⟨rfl, hw⟩; replace hw := hw.symm; subst hw; first | rw [← HS.out] | rw [← HT.out])
            | (go_at_call 72; fail))
          refine HP.out.mono ?_
          rintro e w3 ⟨⟨xv, ps⟩, l3, b3, o3, rfl, hx, h3, u3, p3, hl3⟩
          obtain ⟨xa, xn, xc, rfl⟩ : ∃ a n c, xv = .slice a n c := own_shape hx.row
          have hset := HRS.out.trans p3
          have HE := hide (Wt.err_of hset)
          have HG := hide (fun h => Wt.got_of hset h)
          have HD := hide (done_any l3 b3 o3 w.heap.size w3 h3)
          have HNR := hide h3
          have HX := hide hx
          have HF3 : Hid (Fr (fun x => w.heap.size ≤ x) w w3) := (Fr.of_up ((Up.refl w).alloc _)).then u3 (T := (· = w.heap.size)) (fun x _ e => by omega)
          clear hset p3 h3 hx u3
          go_wp2_with fail
          refine HD.out.mono ?_
          rintro e w4 ⟨rfl, -, u4⟩
          have HX4 : Hid (L3.ok w4 ⟨.slice xa xn xc, ps⟩) := HX.out.fr u4 (fun b hb e => HX.out.row_ne HNR.out (by decide) (by decide) (by decide) (e ▸ hb))
          have HU4 : Hid (Up w w4) := (HF3.out.then u4 (T := (· = w.heap.size)) (fun x _ e => by omega)).up (fun x hx => by omega)
          clear u4
          go_wp2
          go_ret2
          exact ⟨⟨.slice xa xn xc, ps⟩, by rw [HE.out]; rfl, HX4.out, (fun e => (HG.out (Wt.fin_bad (HE.out.symm.trans e))).symm), HU4.out⟩
    · have hp : (s.take 12 == Wt.name) = false := by simpa using hp
      have HP : Hid (Tx.pre Wt.name s = false) := hp
      have hp' : (s.take 12 == [77, 85, 76, 84, 73, 80, 79, 76, 89, 71, 79, 78]) = false := hp
      have HN : Hid (Wt.set l = none) := by rw [HST.out, HP.out]; exact rfl
      have HE : Hid (Wt.err l = 3) := by show _ = _; unfold Wt.err; rw [HN.out]
      clear HST hp
      unfold ReadPost
      go_enter Tryz.func45, Tryz.ntmps45
      go_wp2_with (go_at_call 70; refine (bare_any l _).mono ?_; rintro e w1 ⟨rfl, hw⟩; replace hw := hw.symm; subst hw; rw [← HS.out])
      go_ret2
      exact ⟨nil3, by rw [HE.out]; rfl, nil3_ok _, (fun e => by rw [HE.out] at e; cases e), Up.refl _⟩
end Go.Proofs.YtcclepohmhdpbaaGreatDoor

/- THE LAW: decoded, at one format. -/
namespace Go.Proofs.YtcclepohmhdpbaaGreatDoor
set_option linter.all false
open Go.RowKit Go.Deep

set_option maxRecDepth 100000 in
set_option maxHeartbeats 4000000 in
theorem decoded0_any (l : List UInt8) (w : World) (Wb : Nat) (hW : WR w Wb nv nv nv 0) (hb : l.length ≤ 1048576) :
    Calls Tryz.prog 23 #[.pointer (some ⟨Wb, 0, none⟩), .int .i64 0, .string (bs l)] w (DecPost (Wt.got l) Wb w) := by
  have e0 := bs_size l
  have HW := hide hW
  have hWw := hide (VRow.lt hW)
  clear hW
  by_cases hlong : 6000 < l.length
  · have HD := hide (dec_long 0 l w (by decide) hlong hb)
    go_enter Tryz.func23, Tryz.ntmps23
    go_wp2_with (go_at_call 38; refine HD.out.mono ?_; rintro e w1 ⟨rfl, u1⟩; replace u1 := hide u1)
    go_ret
    exact ⟨rfl, .inl ⟨VRow.of_block HW.out (u1.out.block _ hWw.out), u1.out⟩⟩
  · have hl : l.length ≤ 6000 := by omega
    have HRP := hide (fun w => read0_any l w hl)
    have HRD := hide (fun w => dText_any l w hl)
    have HBD := hide ((Wt.got_ok hl).bd)
    obtain ⟨E, hE⟩ : ∃ E, E = Wt.err l := ⟨_, rfl⟩
    obtain ⟨M, hM⟩ : ∃ M, M = Wt.got l := ⟨_, rfl⟩
    rw [← hE, ← hM] at HRP HRD
    rw [← hM] at HBD ⊢
    clear hE hM
    by_cases hE0 : E = 0
    · subst hE0
      by_cases hw0 : Pl.wrong M = 0
      · have HD := hide (dec_ok 0 l w (by decide) hl M HBD.out hw0 HRP.out)
        have HW0 := hide hw0
        clear HRP hw0
        go_enter Tryz.func23, Tryz.ntmps23
        go_wp2_with fail
        refine HD.out.mono ?_
        rintro e w1 ⟨p, b, d, rfl, hs, hnew, u1⟩
        obtain ⟨rfl, -⟩ := id hs
        replace hs := hide hs
        replace hnew := hide hnew
        replace u1 := hide u1
        go_wp2_with fail
        refine (HRD.out _).mono ?_
        rintro e w2 ⟨⟨xv, ps⟩, rfl, hx, hm, u2⟩
        obtain ⟨xa, xn, xc, rfl⟩ : ∃ a n c, xv = .slice a n c := own_shape hx.row
        replace hm := hide (hm rfl)
        replace hx := hide hx
        replace u2 := hide u2
        go_wp2_with fail
        refine (wrong_any _ M _ (hm.out ▸ hx.out.rd) HBD.out).mono ?_
        rintro e w3 ⟨rfl, q, rfl⟩
        rw [HW0.out]
        have HU : Hid (Up w (w2.drewN q)) := ((u1.out.trans u2.out).drewN q)
        have HW3 : Hid (WR (w2.drewN q) Wb nv nv nv 0) := VRow.of_block HW.out (HU.out.block _ hWw.out)
        have HK := hide (keep_gen (w2.drewN q) Wb nv nv nv 0 [] HW3.out (World.ownsRow_nil _ _ _ _) (by simp) b xa xn xc)
        go_wp2_with fail
        refine HK.out.mono ?_
        rintro e w4 ⟨rfl, psv, hwr, hown, hfr, -⟩
        replace hwr := hide hwr
        replace hown := hide hown
        replace hfr := hide hfr
        go_wp2
        go_ret
        refine ⟨rfl, .inr ⟨psv, b, d, ⟨.slice xa xn xc, ps⟩, ?_⟩⟩
        have hfr' : Fr (· = Wb) (w2.drewN q) w4 := hfr.out.mono fun x _ e => by
          rcases e with e | e
          · exact e
          · cases e
        have hne : ∀ x ∈ b :: d.bl, x ≠ Wb := fun x hx e => by
          have h1 := hnew.out x hx
          have h2 := hWw.out
          omega
        have u12 : Up w1 (w2.drewN q) := u2.out.drewN q
        refine ⟨⟨hwr.out, hown.out, (hs.out.up' u12).fr hfr' hne, ?_, hm.out, HW0.out, hne, HBD.out⟩, (Fr.of_up HU.out).trans hfr'⟩
        exact (hx.out.up ((Up.refl w2).drewN q)).fr hfr' fun b hb e => (hx.out.up ((Up.refl w2).drewN q)).row_ne HW3.out (by decide) (by decide) (by decide) (e ▸ hb)
      · have HD := hide (dec_form 0 l w (by decide) hl M HBD.out hw0 HRP.out)
        have HW0 : (Pl.wrong M != 0) = true := bne_iff_ne.2 hw0
        obtain ⟨wm, hwm⟩ : ∃ x, x = Pl.wrong M := ⟨_, rfl⟩
        rw [← hwm] at HD HW0
        have HWM := hide hwm
        clear HRP hw0 hwm
        go_enter Tryz.func23, Tryz.ntmps23
        go_wp2_with fail
        refine HD.out.mono ?_
        rintro e w1 ⟨rfl, u1⟩
        replace u1 := hide u1
        go_wp2_with fail
        refine (HRD.out _).mono ?_
        rintro e w2 ⟨⟨xv, ps⟩, rfl, hx, hm, u2⟩
        obtain ⟨xa, xn, xc, rfl⟩ : ∃ a n c, xv = .slice a n c := own_shape hx.row
        replace hm := hide (hm rfl)
        replace hx := hide hx
        replace u2 := hide u2
        go_wp2_with fail
        refine (wrong_any _ M _ (hm.out ▸ hx.out.rd) HBD.out).mono ?_
        rintro e w3 ⟨rfl, q, rfl⟩
        rw [← HWM.out]
        have HU : Hid (Up w (w2.drewN q)) := ((u1.out.trans u2.out).drewN q)
        go_wp2
        go_ret
        exact ⟨rfl, .inl ⟨VRow.of_block HW.out (HU.out.block _ hWw.out), HU.out⟩⟩
    · have HD := hide (dec_bad 0 l w (by decide) hl E M hE0 HRP.out)
      have hE1 : (E == 0) = false := beq_eq_false_iff_ne.2 hE0
      have hE2 : (E != 0) = true := bne_iff_ne.2 hE0
      clear HRP hE0
      go_enter Tryz.func23, Tryz.ntmps23
      go_wp2_with fail
      refine HD.out.mono ?_
      rintro e w1 ⟨rfl, u1⟩
      replace u1 := hide u1
      go_wp2_with fail
      refine (HRD.out _).mono ?_
      rintro e w2 ⟨⟨xv, ps⟩, rfl, hx, hm, u2⟩
      obtain ⟨xa, xn, xc, rfl⟩ : ∃ a n c, xv = .slice a n c := own_shape hx.row
      have HU : Hid (Up w w2) := u1.out.trans u2
      clear hx hm u2
      go_wp2
      go_ret
      exact ⟨rfl, .inl ⟨VRow.of_block HW.out (HU.out.block _ hWw.out), HU.out⟩⟩
end Go.Proofs.YtcclepohmhdpbaaGreatDoor
