import Derived.Test.YtcclepohmhdpbaaGreatDoorJpJ
import Derived.Test.YtcclepohmhdpbaaGreatDoorJpB
import Derived.Test.YtcclepohmhdpbaaGreatDoorDec
import Derived.Test.YtcclepohmhdpbaaGreatDoorKeep
/- THE PROGRAM's TEXTS, READ: polygon. -/
namespace Go.Proofs.YtcclepohmhdpbaaGreatDoor
set_option linter.all false
open Go.RowKit Go.Deep

def pPlPost (l : List UInt8) (bad0 off0 : Bool) (rb : Nat) (w : World) (e : Ending) (w' : World) : Prop :=
  ∃ (x : L2) (l' : List UInt8) (bad off : Bool), e = .returned x.v ∧ x.ok w' ∧ RT w' rb l' bad off ∧ Fr (· = rb) w w' ∧ (if bad0 = true then none else Wt.poly l off0) = (if bad = true then none else some (x.pts, l', off)) ∧ l'.length ≤ 6000

set_option maxRecDepth 100000 in
set_option maxHeartbeats 4000000 in
theorem pPl_any (l : List UInt8) (bad0 off0 : Bool) (rb : Nat) (w : World) (hr : RT w rb l bad0 off0) (hl : l.length ≤ 6000) :
    Calls Tryz.prog 231 #[.pointer (some ⟨rb, 0, none⟩)] w (pPlPost l bad0 off0 rb w) := by
  have HR := hide hr
  clear hr
  go_enter Tryz.func231, Tryz.ntmps231
  go_wp2_with fail
  refine (need_any [40] l bad0 off0 rb _ HR.out hl (by simp)).mono ?_
  rintro e w1 ⟨rfl, h1, u1⟩
  have HT := hide (Wt.begin_ Wt.ring l off0 bad0)
  have hl1 : (Tx.aft [40] (Tx.bare l)).length ≤ l.length := Nat.le_trans (Tx.aft_le _ _) (Tx.bare_le l)
  obtain ⟨l1, hl1e⟩ : ∃ l1, l1 = Tx.aft [40] (Tx.bare l) := ⟨_, rfl⟩
  obtain ⟨b1, hb1e⟩ : ∃ b1, b1 = (bad0 || !Tx.pre [40] (Tx.bare l)) := ⟨_, rfl⟩
  rw [← hl1e, ← hb1e] at h1 HT
  have hl1b : (Tx.aft [40] (Tx.bare l)).length ≤ (Tx.bare l).length := Tx.aft_le _ _
  rw [← hl1e] at hl1 hl1b
  rw [← hb1e]
  have HQ := hide (P2.start h1 (Nat.le_trans hl1 hl))
  have HF1 := hide u1
  clear h1 u1 hl1e hb1e
  go_wp2_with fail
  go_loopw [3, 4] (fun v mv wr => ∃ (k : Nat) (r : List L1) (l' : List UInt8) (bad off more : Bool) (u : Value), u = v ∧ mv = .bool more ∧ Hid (P2 w1 wr rb u r l' bad off) ∧ Hid (more = true → bad = false ∧ l'.length ≤ k ∧ (if bad0 = true then none else Wt.poly l off0) = Bn.pre (r.map L1.r) (Wt.items Wt.ring (k + 1) l' off)) ∧ Hid (more = false → (if bad0 = true then none else Wt.poly l off0) = if bad = true then none else some ((r.map L1.r), l', off))) (fun v _ _ => 7000 - lenS v)
  case atStart =>
    refine ⟨(Tx.bare l).length, [], l1, b1, off0, !b1, _, rfl, rfl, HQ, fun e => ?_, fun e => ?_⟩
    · have e1 : b1 = false := by simpa using e
      refine ⟨e1, hl1b, ?_⟩
      exact HT.out.trans (by rw [e1]; rfl)
    · have e1 : b1 = true := by simpa using e
      exact HT.out.trans (by rw [e1]; rfl)
  case round =>
    obtain ⟨wo, hw⟩ : ∃ x, x = wr := ⟨_, rfl⟩
    subst hw
    obtain ⟨k, r, l2, bad, off, more, v, rfl, rfl, HI, H1, H2⟩ := hrel
    have hl2 := HI.out.rest
    obtain ⟨va, vn, vc, rfl⟩ : ∃ a n c, v = .slice a n c := own_shape HI.out.own
    obtain rfl : vn = r.length := by obtain ⟨a, c, e⟩ := own_len HI.out.own; cases e; rfl
    cases more
    · have HE := hide (H2.out rfl)
      clear H1 H2
      go_wp2
      go_ret
      exact ⟨⟨_, _⟩, l2, bad, off, rfl, ⟨own_base HI.out.own (Nat.zero_le _), HI.out.sub⟩, HI.out.sd, HF1.out.trans HI.out.fr, HE.out, hl2⟩
    · obtain ⟨hbf, hk, HT2⟩ := H1.out rfl
      subst hbf
      have hs6 := HI.out.sum rfl
      replace HT2 := hide HT2
      clear H1 H2
      go_wp2_with fail
      refine (pRg_any l2 false off rb _ HI.out.sd hl2).mono ?_
      rintro e w4 ⟨⟨xv, xr⟩, l4, b4, o4, rfl, hx, h4, u4, p4, hl4⟩
      obtain ⟨xa, xn, xc, rfl⟩ : ∃ a n c, xv = .slice a n c := own_shape hx
      have HP : Hid ((if false = true then none else Wt.ring l2 off) = (if b4 = true then none else some (xr, l4, o4)) ∧ (b4 = false → l4.length + 1 ≤ l2.length)) := by
        refine ⟨p4, fun e => ?_⟩
        rw [e] at p4
        exact (Wt.ring_lt p4).1
      have HF : Hid (Fr (· = rb) wo w4) := u4
      have HO : Hid (w4.ownsRow w1.heap.size 30 1 (.slice va r.length vc) r.length (r.map L1.v)) := own_fr HI.out.own HF.out fun g hg e => own_row_ne HI.out.own HI.out.sd (by decide) (e ▸ hg)
      have HOA := hide (HO.out.alloc (.cells #[.slice xa xn xc] 30))
      have HX := hide hx
      replace h4 := hide h4
      clear u4 p4 hx
      have hrb : Hid (r.length ≤ 1073741824) := by show _ ≤ _; omega
      have hsz := hide (HI.out.fr.trans HF.out).size
      have HLT : Hid (b4 = false → r.length + 1 + l4.length ≤ 6000) := fun e => by
        have h7 := HP.out.2 e
        omega
      go_wp2_with (first | (at_builtin; refine wpList_app el_rings rfl (.tmp 13) (.tmp 15) rfl w1.heap.size _ _ _ (by rfl) HOA.out _ [.slice xa xn xc] (by rfl) rfl (heap_alloc_new _ _) (by intro u hu; simp at hu; subst hu; rfl) hrb.out (by have := hsz.out; simp at this ⊢; omega) ?_; intro g cap w5 hown5 hg5 hat5 hlt5; have hq5 := hide (HI.out.step' (by omega) h4.out HF.out HX.out HLT.out hl4 hown5 hg5); clear hat5 hlt5 hown5 hg5) | (go_at_call 179; fail))
      have HG := Wt.go_on (bad := false) HT2.out HP.out.1
      obtain ⟨hg1, hg2⟩ := HG
      replace hg1 := hide hg1
      replace hg2 := hide hg2
      refine (next_any l4 b4 o4 rb _ hq5.out.sd hl4).mono ?_
      rintro e w6 ⟨l6, b6, rfl, h6, u6, hl6, hn1, hn2⟩
      obtain ⟨M, hM⟩ : ∃ M, M = (!b4 && Tx.pre [44] (Tx.bare l4)) := ⟨_, rfl⟩
      rw [← hM] at hn1 hn2 hg1 hg2 ⊢
      have hq6 := hide (hq5.out.sd' h6 u6 hl6 (more_bad hM (fun h => (hn2 h).1) ))
      replace hn1 := hide hn1
      replace hn2 := hide hn2
      have HMM := hide hM
      clear h6 u6 hM
      go_wp2
      go_roundw
      case rel =>
        refine ⟨k - 1, r ++ [(⟨.slice xa xn xc, xr⟩ : L1)], l6, b6, o4, M, _, rfl, rfl, hq6, fun e => ?_, fun e => ?_⟩
        · obtain ⟨a1, a2⟩ := hn1.out e
          have a3 := hg1.out e
          have a4 : b4 = false ∧ Tx.pre [44] (Tx.bare l4) = true := more_and (HMM.out.symm.trans e)
          have a5 := Wt.aft_len a4.2
          have a6 := Tx.bare_le l4
          have a7 := HP.out.2 a4.1
          rw [← a2] at a3 a5
          refine ⟨a1, by omega, ?_⟩
          rw [show k - 1 + 1 = k by omega, List.map_append]
          exact a3
        · obtain ⟨a1, a2⟩ := hn2.out e
          have a3 := hg2.out e
          rw [← a1] at a3
          rw [a3, List.map_append]
          cases b6
          · first
            | (rw [a2 rfl]; done)
            | (rw [a2 rfl]; rfl)
          · rfl
      case measure => simp [lenS]; omega
end Go.Proofs.YtcclepohmhdpbaaGreatDoor

/- THE PROGRAM's TEXTS, READ: polygons. -/
namespace Go.Proofs.YtcclepohmhdpbaaGreatDoor
set_option linter.all false
open Go.RowKit Go.Deep

def pPlsPost (l : List UInt8) (bad0 off0 : Bool) (rb : Nat) (w : World) (e : Ending) (w' : World) : Prop :=
  ∃ (x : L3) (l' : List UInt8) (bad off : Bool), e = .returned x.v ∧ x.ok w' ∧ RT w' rb l' bad off ∧ Fr (· = rb) w w' ∧ (if bad0 = true then none else Wt.polys l off0) = (if bad = true then none else some (x.m, l', off)) ∧ l'.length ≤ 6000

set_option maxRecDepth 100000 in
set_option maxHeartbeats 4000000 in
theorem pPls_any (l : List UInt8) (bad0 off0 : Bool) (rb : Nat) (w : World) (hr : RT w rb l bad0 off0) (hl : l.length ≤ 6000) :
    Calls Tryz.prog 188 #[.pointer (some ⟨rb, 0, none⟩)] w (pPlsPost l bad0 off0 rb w) := by
  have HR := hide hr
  clear hr
  go_enter Tryz.func188, Tryz.ntmps188
  go_wp2_with fail
  refine (need_any [40] l bad0 off0 rb _ HR.out hl (by simp)).mono ?_
  rintro e w1 ⟨rfl, h1, u1⟩
  have HT := hide (Wt.begin_ Wt.poly l off0 bad0)
  have hl1 : (Tx.aft [40] (Tx.bare l)).length ≤ l.length := Nat.le_trans (Tx.aft_le _ _) (Tx.bare_le l)
  obtain ⟨l1, hl1e⟩ : ∃ l1, l1 = Tx.aft [40] (Tx.bare l) := ⟨_, rfl⟩
  obtain ⟨b1, hb1e⟩ : ∃ b1, b1 = (bad0 || !Tx.pre [40] (Tx.bare l)) := ⟨_, rfl⟩
  rw [← hl1e, ← hb1e] at h1 HT
  have hl1b : (Tx.aft [40] (Tx.bare l)).length ≤ (Tx.bare l).length := Tx.aft_le _ _
  rw [← hl1e] at hl1 hl1b
  rw [← hb1e]
  have HQ := hide (P3.start h1 (Nat.le_trans hl1 hl))
  have HF1 := hide u1
  clear h1 u1 hl1e hb1e
  go_wp2_with fail
  go_loopw [3, 4] (fun v mv wr => ∃ (k : Nat) (r : List L2) (l' : List UInt8) (bad off more : Bool) (u : Value), u = v ∧ mv = .bool more ∧ Hid (P3 w1 wr rb u r l' bad off) ∧ Hid (more = true → bad = false ∧ l'.length ≤ k ∧ (if bad0 = true then none else Wt.polys l off0) = Bn.pre (r.map L2.pts) (Wt.items Wt.poly (k + 1) l' off)) ∧ Hid (more = false → (if bad0 = true then none else Wt.polys l off0) = if bad = true then none else some ((r.map L2.pts), l', off))) (fun v _ _ => 7000 - lenS v)
  case atStart =>
    refine ⟨(Tx.bare l).length, [], l1, b1, off0, !b1, _, rfl, rfl, HQ, fun e => ?_, fun e => ?_⟩
    · have e1 : b1 = false := by simpa using e
      refine ⟨e1, hl1b, ?_⟩
      exact HT.out.trans (by rw [e1]; rfl)
    · have e1 : b1 = true := by simpa using e
      exact HT.out.trans (by rw [e1]; rfl)
  case round =>
    obtain ⟨wo, hw⟩ : ∃ x, x = wr := ⟨_, rfl⟩
    subst hw
    obtain ⟨k, r, l2, bad, off, more, v, rfl, rfl, HI, H1, H2⟩ := hrel
    have hl2 := HI.out.rest
    obtain ⟨va, vn, vc, rfl⟩ : ∃ a n c, v = .slice a n c := own_shape HI.out.own
    obtain rfl : vn = r.length := by obtain ⟨a, c, e⟩ := own_len HI.out.own; cases e; rfl
    cases more
    · have HE := hide (H2.out rfl)
      clear H1 H2
      go_wp2
      go_ret
      exact ⟨⟨_, _⟩, l2, bad, off, rfl, ⟨own_base HI.out.own (Nat.zero_le _), HI.out.sub⟩, HI.out.sd, HF1.out.trans HI.out.fr, HE.out, hl2⟩
    · obtain ⟨hbf, hk, HT2⟩ := H1.out rfl
      subst hbf
      have hs6 := HI.out.sum rfl
      replace HT2 := hide HT2
      clear H1 H2
      go_wp2_with fail
      refine (pPl_any l2 false off rb _ HI.out.sd hl2).mono ?_
      rintro e w4 ⟨⟨xv, xr⟩, l4, b4, o4, rfl, hx, h4, u4, p4, hl4⟩
      obtain ⟨xa, xn, xc, rfl⟩ : ∃ a n c, xv = .slice a n c := own_shape hx.row
      have HP : Hid ((if false = true then none else Wt.poly l2 off) = (if b4 = true then none else some (L2.pts ⟨.slice xa xn xc, xr⟩, l4, o4)) ∧ (b4 = false → l4.length + 1 ≤ l2.length)) := by
        refine ⟨p4, fun e => ?_⟩
        rw [e] at p4
        exact (Wt.poly_lt p4).1
      have HF : Hid (Fr (· = rb) wo w4) := u4
      have HO : Hid (w4.ownsRow w1.heap.size 33 1 (.slice va r.length vc) r.length (r.map L2.v)) := own_fr HI.out.own HF.out fun g hg e => own_row_ne HI.out.own HI.out.sd (by decide) (e ▸ hg)
      have HOA := hide (HO.out.alloc (.cells #[.slice xa xn xc] 33))
      have HX := hide hx
      replace h4 := hide h4
      clear u4 p4 hx
      have hrb : Hid (r.length ≤ 1073741824) := by show _ ≤ _; omega
      have hsz := hide (HI.out.fr.trans HF.out).size
      have HLT : Hid (b4 = false → r.length + 1 + l4.length ≤ 6000) := fun e => by
        have h7 := HP.out.2 e
        omega
      go_wp2_with (first | (at_builtin; refine wpList_app el_polys rfl (.tmp 13) (.tmp 15) rfl w1.heap.size _ _ _ (by rfl) HOA.out _ [.slice xa xn xc] (by rfl) rfl (heap_alloc_new _ _) (by intro u hu; simp at hu; subst hu; rfl) hrb.out (by have := hsz.out; simp at this ⊢; omega) ?_; intro g cap w5 hown5 hg5 hat5 hlt5; have hq5 := hide (HI.out.step' (by omega) h4.out HF.out HX.out HLT.out hl4 hown5 hg5); clear hat5 hlt5 hown5 hg5) | (go_at_call 179; fail))
      have HG := Wt.go_on (bad := false) HT2.out HP.out.1
      obtain ⟨hg1, hg2⟩ := HG
      replace hg1 := hide hg1
      replace hg2 := hide hg2
      refine (next_any l4 b4 o4 rb _ hq5.out.sd hl4).mono ?_
      rintro e w6 ⟨l6, b6, rfl, h6, u6, hl6, hn1, hn2⟩
      obtain ⟨M, hM⟩ : ∃ M, M = (!b4 && Tx.pre [44] (Tx.bare l4)) := ⟨_, rfl⟩
      rw [← hM] at hn1 hn2 hg1 hg2 ⊢
      have hq6 := hide (hq5.out.sd' h6 u6 hl6 (more_bad hM (fun h => (hn2 h).1) ))
      replace hn1 := hide hn1
      replace hn2 := hide hn2
      have HMM := hide hM
      clear h6 u6 hM
      go_wp2
      go_roundw
      case rel =>
        refine ⟨k - 1, r ++ [(⟨.slice xa xn xc, xr⟩ : L2)], l6, b6, o4, M, _, rfl, rfl, hq6, fun e => ?_, fun e => ?_⟩
        · obtain ⟨a1, a2⟩ := hn1.out e
          have a3 := hg1.out e
          have a4 : b4 = false ∧ Tx.pre [44] (Tx.bare l4) = true := more_and (HMM.out.symm.trans e)
          have a5 := Wt.aft_len a4.2
          have a6 := Tx.bare_le l4
          have a7 := HP.out.2 a4.1
          rw [← a2] at a3 a5
          refine ⟨a1, by omega, ?_⟩
          rw [show k - 1 + 1 = k by omega, List.map_append]
          exact a3
        · obtain ⟨a1, a2⟩ := hn2.out e
          have a3 := hg2.out e
          rw [← a1] at a3
          rw [a3, List.map_append]
          cases b6
          · first
            | (rw [a2 rfl]; done)
            | (rw [a2 rfl]; rfl)
          · rfl
      case measure => simp [lenS]; omega
end Go.Proofs.YtcclepohmhdpbaaGreatDoor

/- THE PROGRAM's TEXTS, READ: sets, Read. -/
namespace Go.Proofs.YtcclepohmhdpbaaGreatDoor
set_option linter.all false
open Go.RowKit Go.Deep

set_option maxHeartbeats 1000000 in
theorem answer_any (l : List UInt8) (bad off : Bool) (rb : Nat) (xa : Option Addr) (xn xc : Nat) (w : World) (hr : RT w rb l bad off) (hl : l.length ≤ 6000) :
    Calls Tryz.prog 142 #[.pointer (some ⟨rb, 0, none⟩), .slice xa xn xc] w fun e w' => e = .returned (.tuple #[if Tx.fin (Tx.bare l) bad off = 0 then .slice xa xn xc else .slice none 0 0, .int .i64 (Tx.fin (Tx.bare l) bad off)]) ∧ Fr (· = rb) w w' := by
  have HR := hide hr
  clear hr
  have HB := hide (blanks_any l bad off rb w HR.out hl)
  have hbl := Tx.bare_le l
  obtain ⟨t, ht⟩ : ∃ t, t = Tx.bare l := ⟨_, rfl⟩
  rw [← ht] at HB hbl ⊢
  clear ht
  have e0 := bs_size t
  obtain ⟨F, hF⟩ : ∃ F, F = Tx.fin t bad off := ⟨_, rfl⟩
  rw [← hF]
  have HF := hide hF
  clear hF
  cases t with
  | nil =>
    cases bad <;> cases off
    all_goals
      have hv := HF.out
      simp [Tx.fin] at hv
      subst hv
      go_enter Tryz.func142, Tryz.ntmps142
      go_wp2_with fail
      refine HB.out.mono ?_
      rintro e w1 ⟨n, rfl, -, h1, u1⟩
      obtain ⟨c0, c1, c2, -, -, -⟩ := h1.facts
      replace u1 := hide u1
      clear h1
      go_wp2
      go_ret2
      exact ⟨rfl, u1.out⟩
  | cons a s =>
    have e1 : (0 : Int) < ((a :: s).length : Int) := by simp only [List.length_cons]; omega
    have hv := HF.out
    simp [Tx.fin] at hv
    subst hv
    cases bad
    all_goals
      go_enter Tryz.func142, Tryz.ntmps142
      go_wp2_with fail
      refine HB.out.mono ?_
      rintro e w1 ⟨n, rfl, -, h1, u1⟩
      obtain ⟨c0, c1, c2, -, -, -⟩ := h1.facts
      replace u1 := hide u1
      clear h1
      go_wp2
      go_ret2
      exact ⟨rfl, u1.out⟩

def pSetPost (l : List UInt8) (rb : Nat) (w : World) (e : Ending) (w' : World) : Prop :=
  ∃ (x : L3) (l' : List UInt8) (bad off : Bool), e = .returned x.v ∧ x.ok w' ∧ RT w' rb l' bad off ∧ Fr (· = rb) w w' ∧ Wt.set l = (if bad = true then none else some (x.m, l', off)) ∧ l'.length ≤ 6000

set_option maxRecDepth 100000 in
set_option maxHeartbeats 2000000 in
theorem pSet_any (l : List UInt8) (rb : Nat) (w : World) (hr : RT w rb l false false) (hl : l.length ≤ 6000) :
    Calls Tryz.prog 143 #[.pointer (some ⟨rb, 0, none⟩)] w (pSetPost l rb w) := by
  have HR := hide hr
  clear hr
  have HS : Hid (Wt.set l = if (false || !Tx.pre Wt.name (Tx.bare l)) = true then none else Wt.rest (Tx.aft Wt.name (Tx.bare l))) := by
    show _ = _
    unfold Wt.set
    cases Tx.pre Wt.name (Tx.bare l) <;> simp
  have hle : (Tx.aft Wt.name (Tx.bare l)).length ≤ 6000 := Nat.le_trans (Nat.le_trans (Tx.aft_le _ _) (Tx.bare_le l)) hl
  have HN := hide (need_any Wt.name l false false rb w HR.out hl (by decide))
  unfold NeedPost at HN
  obtain ⟨r, hr⟩ : ∃ r, r = Tx.aft Wt.name (Tx.bare l) := ⟨_, rfl⟩
  obtain ⟨b1, hb1⟩ : ∃ b1, b1 = (false || !Tx.pre Wt.name (Tx.bare l)) := ⟨_, rfl⟩
  rw [← hr, ← hb1] at HN HS
  rw [← hr] at hle
  clear hr hb1
  have hbl := Tx.bare_le r
  have hgap := Tx.bare_gap r
  go_enter Tryz.func143, Tryz.ntmps143
  go_wp2_with fail
  refine HN.out.mono ?_
  rintro e w1 ⟨rfl, h1, u1⟩
  replace h1 := hide h1
  replace u1 := hide u1
  go_wp2_with fail
  refine (blanks_any r b1 false rb _ h1.out hle).mono ?_
  rintro e w2 ⟨n, rfl, hn, h2, u2⟩
  rw [← hn] at hgap
  replace h2 := hide h2
  replace u2 := hide u2
  obtain ⟨gp, hgp⟩ : ∃ gp, gp = Wt.gap r := ⟨_, rfl⟩
  rw [← hgp] at hgap
  have HGP := hide hgp
  clear hn hgp
  cases gp
  · have hn0 : ¬ (0 : Int) < (n : Int) := by have := hgap.2 rfl; omega
    have HRS : Hid (Wt.rest r = Wt.polys (Tx.bare r) false) := by
      show _ = _
      unfold Wt.rest
      rw [← HGP.out, Bool.and_false, if_neg (by decide), Wt.polys_bare]
    rw [HRS.out] at HS
    clear hgap
    go_wp2_with fail
    refine (pPls_any (Tx.bare r) b1 false rb _ h2.out (by omega)).mono ?_
    rintro e w3 ⟨x, l3, b3, o3, rfl, hx, h3, u3, p3, hl3⟩
    have HU := hide ((u1.out.trans u2.out).trans u3)
    replace hx := hide hx
    replace h3 := hide h3
    replace p3 := hide p3
    clear u3
    go_wp2
    go_ret
    exact ⟨x, l3, b3, o3, rfl, hx.out, h3.out, HU.out, HS.out.trans p3.out, hl3⟩
  · have hn0 : (0 : Int) < (n : Int) := by
      rcases Nat.eq_zero_or_pos n with h | h
      · have := hgap.1 h; cases this
      · omega
    clear hgap
    have HW := hide (word_any Wt.empty (Tx.bare r) b1 false rb w2 h2.out (by omega) (by decide))
    obtain ⟨P, hP⟩ : ∃ P, P = Tx.pre Wt.empty (Tx.bare r) := ⟨_, rfl⟩
    rw [← hP] at HW
    have HPP := hide hP
    clear hP
    cases P
    · have HA : Hid (Tx.aft Wt.empty (Tx.bare r) = Tx.bare r) := Tx.aft_f HPP.out.symm
      have HRS : Hid (Wt.rest r = Wt.polys (Tx.bare r) false) := by
        show _ = _
        unfold Wt.rest
        rw [← HPP.out, Bool.false_and, if_neg (by decide), Wt.polys_bare]
      rw [HRS.out] at HS
      rw [HA.out] at HW
      go_wp2_with fail
      refine HW.out.mono ?_
      rintro e w4 ⟨rfl, h4, u4⟩
      replace h4 := hide h4
      replace u4 := hide u4
      go_wp2_with fail
      refine (pPls_any (Tx.bare r) b1 false rb _ h4.out (by omega)).mono ?_
      rintro e w3 ⟨x, l3, b3, o3, rfl, hx, h3, u3, p3, hl3⟩
      have HU := hide (((u1.out.trans u2.out).trans u4.out).trans u3)
      replace hx := hide hx
      replace h3 := hide h3
      replace p3 := hide p3
      clear u3
      go_wp2
      go_ret
      exact ⟨x, l3, b3, o3, rfl, hx.out, h3.out, HU.out, HS.out.trans p3.out, hl3⟩
    · have HRS : Hid (Wt.rest r = some ([], Tx.aft Wt.empty (Tx.bare r), false)) := by
        show _ = _
        unfold Wt.rest
        rw [← HPP.out, ← HGP.out]; rfl
      rw [HRS.out] at HS
      go_wp2_with fail
      refine HW.out.mono ?_
      rintro e w4 ⟨rfl, h4, u4⟩
      replace h4 := hide h4
      replace u4 := hide u4
      go_wp2
      go_ret
      exact ⟨nil3, _, b1, false, rfl, nil3_ok _, h4.out, (u1.out.trans u2.out).trans u4.out, HS.out, Nat.le_trans (Tx.aft_le _ _) (by omega)⟩

set_option maxHeartbeats 1000000 in
theorem tRead_any (l : List UInt8) (w : World) (hl : l.length ≤ 6000) :
    Calls Tryz.prog 103 #[.string (bs l)] w (ReadPost (Wt.err l) (Wt.got l) w) := by
  have hnew := VRow.new w [.string (bs l), .bool false, .bool false] 168
  have HS := hide (pSet_any l w.heap.size _ hnew hl)
  clear hnew
  unfold ReadPost
  go_enter Tryz.func103, Tryz.ntmps103
  go_wp2_with fail
  refine HS.out.mono ?_
  rintro e w1 ⟨⟨xv, ps⟩, t, bad, off, rfl, hx, h1, u1, hp, ht⟩
  obtain ⟨xa, xn, xc, rfl⟩ : ∃ a n c, xv = .slice a n c := own_shape hx.row
  have HU : Hid (Up w w1) := ((Fr.of_up ((Up.refl w).alloc _)).then u1 (T := (· = w.heap.size)) (S := fun x => w.heap.size ≤ x) (fun x _ e => by omega)).up (fun x hx => by omega)
  have HE := hide (Wt.err_of hp)
  have HG := hide (fun h => Wt.got_of hp h)
  have HX := hide hx
  have HRT := hide h1
  clear hx h1 u1 hp
  obtain ⟨F, hF⟩ : ∃ F, F = Tx.fin (Tx.bare t) bad off := ⟨_, rfl⟩
  have HA := hide (answer_any t bad off w.heap.size xa xn xc w1 HRT.out ht)
  rw [← hF] at HE HA
  have HFF := hide hF
  clear hF
  go_wp2_with fail
  refine HA.out.mono ?_
  rintro e w2 ⟨rfl, u2⟩
  have HU2 : Hid (Up w w2) := ((Fr.of_up HU.out).then u2 (T := (· = w.heap.size)) (S := fun x => w.heap.size ≤ x) (fun x _ e => by omega)).up (fun x hx => by omega)
  have HX2 : Hid (L3.ok w2 ⟨.slice xa xn xc, ps⟩) := HX.out.fr u2 (fun b hb e => HX.out.row_ne HRT.out (by decide) (by decide) (by decide) (e ▸ hb))
  clear u2
  by_cases h0 : F = 0
  · rw [if_pos h0]
    have HH0 := hide h0
    clear h0
    go_wp2
    go_ret2
    exact ⟨⟨.slice xa xn xc, ps⟩, by rw [HE.out]; rfl, HX2.out, fun _ => (HG.out (Wt.fin_bad (HFF.out.symm.trans HH0.out))).symm, HU2.out⟩
  · rw [if_neg h0]
    have HH0 := hide h0
    clear h0
    go_wp2
    go_ret2
    exact ⟨nil3, by rw [HE.out]; rfl, nil3_ok _, (fun e => absurd (HE.out.symm.trans e) HH0.out), HU2.out⟩

set_option maxHeartbeats 1000000 in
theorem read0_any (l : List UInt8) (w : World) (hl : l.length ≤ 6000) :
    Calls Tryz.prog 63 #[.int .i64 0, .string (bs l)] w (ReadPost (Wt.err l) (Wt.got l) w) := by
  unfold ReadPost
  go_enter Tryz.func63, Tryz.ntmps63
  go_wp2_with (go_at_call 103; refine (tRead_any l _ hl).mono ?_; rintro e w1 ⟨X, rfl, h⟩; replace h := hide h)
  go_ret2
  exact ⟨X, rfl, h.out⟩
end Go.Proofs.YtcclepohmhdpbaaGreatDoor

/- THE PROGRAM's JSON: the object, Read. -/
namespace Go.Proofs.YtcclepohmhdpbaaGreatDoor
set_option linter.all false
open Go.RowKit Go.Deep

theorem L3.ok.rt {w w' : World} {x : L3} (h : x.ok w) {rb : Nat} {l : List UInt8} {bad off : Bool} (hr : RT w rb l bad off) (u : Fr (· = rb) w w') : x.ok w' := h.fr u fun b hb e => h.row_ne hr (by decide) (by decide) (by decide) (e ▸ hb)

namespace Js
open Bn (Res)
def typ (l : List UInt8) : Option (List UInt8) := (str (Tx.bare l)).bind fun y => if y.1 = typeT then some y.2 else none
theorem memV_type (l : List UInt8) (o : Bool) : memV typeN l o = (typ l).map fun t => (.type, t, o) := by
  unfold memV typ
  rw [if_pos rfl]
  cases str (Tx.bare l) with
  | none => rfl
  | some y =>
    simp only [Option.bind_some]
    split <;> rfl
theorem memV_list (l : List UInt8) (o : Bool) : memV listN l o = (polys l o).map fun y => (.coords y.1, y.2) := by
  unfold memV
  rw [if_neg listN_ne, if_pos rfl]
theorem memV_other {c : List Int} (h1 : c ≠ typeN) (h2 : c ≠ listN) (l : List UInt8) (o : Bool) : memV c l o = (rd 16 l).map fun y => (.other, y.2, o) := by
  unfold memV
  rw [if_neg h1, if_neg h2]
/-- A member, told by its name and its value. -/
theorem memS_of {l l3 l4 : List UInt8} {o o4 b3 b4 : Bool} {c : List Int} {a : M} (p3 : name l = if b3 = true then none else some (c, l3)) (p4 : (if b3 = true then none else memV c l3 o) = if b4 = true then none else some (a, l4, o4)) : (if false = true then none else memS l o) = if b4 = true then none else some (a, l4, o4) := by
  simp only [Bool.false_eq_true, if_false]
  rw [memS_name, p3]
  cases b3
  · exact p4
  · exact p4
theorem bad_map {α β : Type} {P : Option α} {R : Option β} {f : α → β} {b3 b4 : Bool} {x : α} (h : (if b3 = true then none else P) = if b4 = true then none else some x) : (if b3 = true then none else P.map f) = if b4 = true then none else some (f x) := by
  cases b3
  · simp only [Bool.false_eq_true, if_false] at h ⊢
    rw [h]
    cases b4 <;> rfl
  · simp only [if_true] at h ⊢
    cases b4
    · cases h
    · rfl
theorem types_snoc (r : List M) (a : M) : types (r ++ [a]) = types r + (if a.isT = true then 1 else 0) := by
  unfold types
  rw [List.filter_append, List.length_append]
  cases h : a.isT <;> simp [h]
theorem places_type (r : List M) : places (r ++ [.type]) = places r := by simp [places, M.co]
theorem places_other (r : List M) : places (r ++ [.other]) = places r := by simp [places, M.co]
theorem places_coords (r : List M) (m : Mult) : places (r ++ [.coords m]) = places r ++ [m] := by simp [places, M.co]
theorem last_type (r : List M) : last (r ++ [.type]) = last r := by unfold last; rw [places_type]
theorem last_other (r : List M) : last (r ++ [.other]) = last r := by unfold last; rw [places_other]
theorem last_coords (r : List M) (m : Mult) : last (r ++ [.coords m]) = m := by unfold last; rw [places_coords]; simp
theorem types_le (r : List M) : types r ≤ r.length := List.length_filter_le _ _
theorem places_le (r : List M) : (places r).length ≤ r.length := List.length_filterMap_le _ _
theorem set_of {l l' : List UInt8} {bad off : Bool} {r : List M} (h : list 123 125 memS l false = if bad = true then none else some (r, l', off)) : set l = if (bad || !fit r) = true then none else some (last r, l', off) := by
  unfold set
  rw [h]
  cases bad
  · simp only [Bool.false_eq_true, if_false, Option.bind_some, Bool.false_or]
    cases fit r <;> rfl
  · rfl
end Js

def TvPost (l : List UInt8) (bad off : Bool) (rb : Nat) (w : World) (e : Ending) (w' : World) : Prop :=
  ∃ (l' : List UInt8) (bad' : Bool), e = .returned (.tuple #[]) ∧ RT w' rb l' bad' off ∧ Fr (· = rb) w w' ∧ (if bad = true then none else Js.typ l) = (if bad' = true then none else some l') ∧ l'.length ≤ l.length

theorem Js.typ_of {l l1 : List UInt8} {bad b1 : Bool} {c : List Int} (p1 : (if bad = true then none else Js.str (Tx.bare l)) = if b1 = true then none else some (c, l1)) : (if bad = true then none else Js.typ l) = if (b1 || !decide (c = Js.typeT)) = true then none else some l1 := by
  unfold Js.typ
  cases bad
  · simp only [Bool.false_eq_true, if_false] at p1 ⊢
    rw [p1]
    cases b1
    · by_cases h : c = Js.typeT <;> simp [h]
    · rfl
  · simp only [if_true] at p1 ⊢
    cases b1
    · cases p1
    · rfl

set_option maxRecDepth 100000 in
set_option maxHeartbeats 4000000 in
theorem typeValue_any (l : List UInt8) (bad off : Bool) (rb : Nat) (w : World) (hr : RT w rb l bad off) (hl : l.length ≤ 6000) :
    Calls Tryz.prog 182 #[.pointer (some ⟨rb, 0, none⟩)] w (TvPost l bad off rb w) := by
  have HR := hide hr
  clear hr
  go_enter Tryz.func182, Tryz.ntmps182
  go_wp2_with fail
  refine (characters_any l bad off rb _ HR.out hl).mono ?_
  rintro e w1 ⟨v, c, l1, b1, rfl, ho, h1, u1, p1, hl1, hcl⟩
  have HP := hide (Js.typ_of p1)
  have HS := hide (same_any c [77, 117, 108, 116, 105, 80, 111, 108, 121, 103, 111, 110] _ v w1 ho hcl (by simp))
  replace h1 := hide h1
  replace u1 := hide u1
  clear ho p1
  by_cases hc : c = Js.typeT
  · have HD : Hid (decide (c = Js.up [77, 117, 108, 116, 105, 80, 111, 108, 121, 103, 111, 110]) = true) := by rw [hc]; rfl
    have HPT : Hid ((if bad = true then none else Js.typ l) = if b1 = true then none else some l1) := by
      show _ = _
      rw [HP.out, decide_eq_true hc]
      simp
    rw [HD.out] at HS
    clear hc
    go_wp2_with fail
    refine HS.out.mono ?_
    rintro e w2 ⟨rfl, n, rfl⟩
    go_wp2
    refine bodyPost_ret (v := .tuple #[]) (by simp [results, Tryz.results182, go_sem]) rfl ?_
    exact ⟨l1, b1, rfl, VRow.drewN h1.out n, u1.out.drewN n, HPT.out, hl1⟩
  · have HD : Hid (decide (c = Js.up [77, 117, 108, 116, 105, 80, 111, 108, 121, 103, 111, 110]) = false) := decide_eq_false hc
    have HPT : Hid ((if bad = true then none else Js.typ l) = none) := by
      show _ = _
      rw [HP.out, decide_eq_false hc]
      simp
    rw [HD.out] at HS
    clear hc
    go_wp2_with fail
    refine HS.out.mono ?_
    rintro e w2 ⟨rfl, n, rfl⟩
    have h2 : RT (w1.drewN n) rb l1 b1 off := VRow.drewN h1.out n
    have c1 := h2.c1
    have f1 := h2.f 1
    replace h2 := hide h2
    go_wp2
    refine bodyPost_ret (v := .tuple #[]) (by simp [results, Tryz.results182, go_sem]) rfl ?_
    exact ⟨l1, true, rfl, h2.out.bad true, (u1.out.drewN n).setCell (p := ⟨rb, 1, none⟩) rfl _, HPT.out, hl1⟩
end Go.Proofs.YtcclepohmhdpbaaGreatDoor

/- THE PROGRAM's JSON: the object, Read. -/
namespace Go.Proofs.YtcclepohmhdpbaaGreatDoor
set_option linter.all false
open Go.RowKit Go.Deep

def jSetPost (l : List UInt8) (rb : Nat) (w : World) (e : Ending) (w' : World) : Prop :=
  ∃ (x : L3) (l' : List UInt8) (bad off : Bool), e = .returned x.v ∧ x.ok w' ∧ RT w' rb l' bad off ∧ Fr (· = rb) w w' ∧ Js.set l = (if bad = true then none else some (x.m, l', off)) ∧ l'.length ≤ 6000

set_option maxRecDepth 100000 in
set_option maxHeartbeats 8000000 in
theorem jSet_any (l : List UInt8) (rb : Nat) (w : World) (hr : RT w rb l false false) (hl : l.length ≤ 6000) :
    Calls Tryz.prog 141 #[.pointer (some ⟨rb, 0, none⟩)] w (jSetPost l rb w) := by
  have HR := hide hr
  clear hr
  go_enter Tryz.func141, Tryz.ntmps141
  go_wp2_with fail
  refine (begin_any 123 125 l false false rb _ HR.out hl).mono ?_
  rintro e w1 ⟨l1, b1, more1, rfl, h1, u1, hl1, hm1, hm2⟩
  have HT1 := hide (fun h => And.intro (hm1 h).1 (And.intro (hm1 h).2.1 ((hm1 h).2.2.1 _ Js.memS false)))
  have HT2 := hide (fun h => (hm2 h).1 _ Js.memS false)
  obtain ⟨T, hTe⟩ : ∃ T, T = (if false = true then none else Js.list 123 125 Js.memS l false) := ⟨_, rfl⟩
  rw [← hTe] at HT1 HT2
  have HTE : Hid (T = Js.list 123 125 Js.memS l false) := hTe
  replace h1 := hide h1
  replace u1 := hide u1
  clear hm1 hm2 hTe
  go_wp2_with fail
  go_loopw [3, 4, 5, 6] (fun pv tv cv mv wr => ∃ (k : Nat) (r : List Js.M) (l' : List UInt8) (bad off more : Bool) (x : L3), pv = x.v ∧ tv = .int .i64 (Js.types r : Nat) ∧ cv = .int .i64 ((Js.places r).length : Nat) ∧ mv = .bool more ∧ Hid (x.ok wr) ∧ Hid (x.m = Js.last r) ∧ Hid (RT wr rb l' bad off) ∧ Hid (Fr (· = rb) w wr) ∧ l'.length ≤ 6000 ∧ Hid (more = true → r.length + l'.length ≤ 6000) ∧ Hid (more = true → bad = false ∧ l'.length ≤ k ∧ T = Bn.pre r (Js.items 125 Js.memS (k + 1) l' off)) ∧ Hid (more = false → T = if bad = true then none else some (r, l', off))) (fun _ _ _ mv wr => moreN mv * (1 + rtM wr rb))
  case atStart => exact ⟨(Tx.bare l).length, [], l1, b1, false, more1, nil3, rfl, rfl, rfl, rfl, nil3_ok _, rfl, h1, u1, by omega, fun _ => by simp; omega, HT1.out, HT2.out⟩
  case round =>
    obtain ⟨wo, hw⟩ : ∃ x, x = wr := ⟨_, rfl⟩
    subst hw
    obtain ⟨k, r, l2, bad, off, more, x, rfl, rfl, rfl, rfl, HX, HLS, HI, HF, hl2, HSM, H1, H2⟩ := hrel
    have hl26 : l2.length ≤ 6000 := by omega
    have HTL := hide (Js.types_le r)
    have HPL := hide (Js.places_le r)
    obtain ⟨tn, htn⟩ : ∃ t, t = Js.types r := ⟨_, rfl⟩
    obtain ⟨pn, hpn⟩ : ∃ t, t = (Js.places r).length := ⟨_, rfl⟩
    rw [← htn, ← hpn]
    rw [← htn] at HTL
    rw [← hpn] at HPL
    have HTN := hide htn
    have HPN := hide hpn
    clear htn hpn
    obtain ⟨xv, ps⟩ := x
    obtain ⟨xa, xn, xc, rfl⟩ : ∃ a n c, xv = .slice a n c := own_shape HX.out.row
    cases more
    · have HE := hide (H2.out rfl)
      have HSet := hide (Js.set_of (HTE.out.symm.trans HE.out))
      rw [← HLS.out] at HSet
      have HFit : Hid (Js.fit r = (tn == 1 && pn == 1)) := by
        show _ = _
        rw [HTN.out, HPN.out]; rfl
      rw [HFit.out] at HSet
      clear H1 H2 HSM
      obtain ⟨c0, c1, c2, f0, f1, f2⟩ := HI.out.facts
      clear c0 c2 f0 f2
      by_cases ht : tn = 1
      · by_cases hp : pn = 1
        · subst ht hp
          go_wp2
          go_ret
          exact ⟨⟨.slice xa xn xc, ps⟩, l2, bad, off, rfl, HX.out, HI.out, HF.out, by rw [HSet.out]; simp, hl26⟩
        · subst ht
          have hp2 : ((pn : Int) != 1) = true := bne_iff_ne.2 (by omega)
          have HNF : Hid ((pn == 1) = false) := beq_eq_false_iff_ne.2 hp
          go_wp2
          go_ret
          exact ⟨⟨.slice xa xn xc, ps⟩, l2, true, off, rfl, HX.out.rt HI.out ((Fr.refl (· = rb) _).setCell (p := ⟨rb, 1, none⟩) rfl _), HI.out.bad true, HF.out.setCell (p := ⟨rb, 1, none⟩) rfl _, by rw [HSet.out, HNF.out]; simp, hl26⟩
      · have ht2 : ((tn : Int) != 1) = true := bne_iff_ne.2 (by omega)
        have HNF : Hid ((tn == 1) = false) := beq_eq_false_iff_ne.2 ht
        go_wp2
        go_ret
        exact ⟨⟨.slice xa xn xc, ps⟩, l2, true, off, rfl, HX.out.rt HI.out ((Fr.refl (· = rb) _).setCell (p := ⟨rb, 1, none⟩) rfl _), HI.out.bad true, HF.out.setCell (p := ⟨rb, 1, none⟩) rfl _, by rw [HSet.out, HNF.out]; simp, hl26⟩
    · obtain ⟨hbf, hk, HT⟩ := H1.out rfl
      subst hbf
      have hsm := HSM.out rfl
      have htl := HTL.out
      have hpl := HPL.out
      replace HT := hide HT
      clear H1 H2 HSM
      go_wp2_with fail
      refine (memberName_any l2 false off rb _ HI.out hl26).mono ?_
      rintro e w2 ⟨nv, c, l3, b3, rfl, ho, h3, u3, p3, hl3, hcl⟩
      obtain ⟨na, nn, nc, rfl⟩ : ∃ a n c, nv = .slice a n c := own_shape ho
      have HX3 := hide (HX.out.rt HI.out u3)
      have HS1 := hide (same_any c [116, 121, 112, 101] _ _ w2 ho hcl (by simp))
      have HS2 := hide (fun n => same_any c [99, 111, 111, 114, 100, 105, 110, 97, 116, 101, 115] _ _ (w2.drewN n) (own_up ho ((Up.refl _).drewN n)) hcl (by simp))
      have hl36 : l3.length ≤ 6000 := by omega
      replace p3 : Hid (Js.name l2 = if b3 = true then none else some (c, l3)) := p3
      replace h3 := hide h3
      replace u3 := hide u3
      clear ho
      by_cases hc1 : c = Js.typeN
      · have HD : Hid (decide (c = Js.up [116, 121, 112, 101]) = true) := by rw [hc1]; rfl
        rw [HD.out] at HS1
        have HC := hide hc1
        clear hc1
        go_wp2_with fail
        refine HS1.out.mono ?_
        rintro e w3 ⟨rfl, n, rfl⟩
        have HR3 : Hid (RT (w2.drewN n) rb l3 b3 off) := VRow.drewN h3.out n
        go_wp2_with fail
        refine (typeValue_any l3 b3 off rb _ HR3.out hl36).mono ?_
        rintro e w4 ⟨l4, b4, rfl, h4, u4, p4, hl4⟩
        have HU4 : Hid (Fr (· = rb) w w4) := ((HF.out.trans u3.out).drewN n).trans u4
        have HX4 : Hid (L3.ok w4 ⟨.slice xa xn xc, ps⟩) := (HX3.out.up ((Up.refl _).drewN n)).rt HR3.out u4
        have HP : Hid ((if false = true then none else Js.memS l2 off) = if b4 = true then none else some (Js.M.type, l4, off)) := by
          refine Js.memS_of p3.out ?_
          rw [HC.out, Js.memV_type]
          exact Js.bad_map (R := (none : Option (Js.M × List UInt8 × Bool))) p4
        have HLT : Hid (b4 = false → l4.length + 1 ≤ l2.length) := fun e => by
          have h := HP.out
          rw [e] at h
          exact (Js.memS_lt l2 off _ _ _ h).1
        have hl46 : l4.length ≤ 6000 := by omega
        replace h4 := hide h4
        clear u4 p4
        obtain ⟨hg1, hg2⟩ := Js.go_on (e := 125) (bad := false) HT.out HP.out
        replace hg1 := hide hg1
        replace hg2 := hide hg2
        have HN := hide (nextE_any 125 l4 b4 off rb w4 h4.out (by omega))
        go_wp2_with fail
        refine HN.out.mono ?_
        rintro e w6 ⟨l6, b6, rfl, h6, u6, hl6, hn1, hn2⟩
        obtain ⟨M, hM⟩ : ∃ M, M = (!b4 && Tx.pre [44] (Tx.bare l4)) := ⟨_, rfl⟩
        rw [← hM] at hn1 hn2 hg1 hg2 ⊢
        have HX6 := hide (HX4.out.rt h4.out u6)
        replace hn1 := hide hn1
        replace hn2 := hide hn2
        have HMM := hide hM
        replace h6 := hide h6
        replace u6 := hide u6
        clear hM
        go_wp2
        go_roundw
        case rel =>
          refine ⟨k - 1, r ++ [Js.M.type], l6, b6, off, M, ⟨.slice xa xn xc, ps⟩, rfl, by rw [Js.types_snoc, ← HTN.out]; rfl, by rw [Js.places_type, ← HPN.out], rfl, HX6, HLS.out.trans (Js.last_type r).symm, h6, HU4.out.trans u6.out, by omega, ?_, fun e => ?_, fun e => ?_⟩
          · intro e
            have a4 : b4 = false ∧ Tx.pre [44] (Tx.bare l4) = true := more_and (HMM.out.symm.trans e)
            have a5 := Wt.aft_len a4.2
            have a6 := Tx.bare_le l4
            have a7 := HLT.out a4.1
            have a8 := (hn1.out e).2
            rw [← a8] at a5
            simp
            omega
          · obtain ⟨a1, a2⟩ := hn1.out e
            have a3 := hg1.out e
            have a4 : b4 = false ∧ Tx.pre [44] (Tx.bare l4) = true := more_and (HMM.out.symm.trans e)
            have a5 := Wt.aft_len a4.2
            have a6 := Tx.bare_le l4
            have a7 := HLT.out a4.1
            rw [← a2] at a3 a5
            refine ⟨a1, by omega, ?_⟩
            rw [show k - 1 + 1 = k by omega]
            exact a3
          · obtain ⟨a1, a2⟩ := hn2.out e
            have a3 := hg2.out e
            rw [← a1] at a3
            rw [a3]
            cases b6
            · rw [a2 rfl]
            · rfl
        case measure =>
          rw [rtM_of h6.out, rtM_of HI.out]
          cases M
          · cases b6 <;> simp [moreN] <;> omega
          · have a4 : b4 = false ∧ Tx.pre [44] (Tx.bare l4) = true := more_and HMM.out.symm
            have a7 := HLT.out a4.1
            cases b6 <;> simp [moreN] <;> omega
      · have HD : Hid (decide (c = Js.up [116, 121, 112, 101]) = false) := decide_eq_false hc1
        rw [HD.out] at HS1
        by_cases hc2 : c = Js.listN
        · have HD2 : Hid (decide (c = Js.up [99, 111, 111, 114, 100, 105, 110, 97, 116, 101, 115]) = true) := by rw [hc2]; rfl
          have HS2' := HS2
          unfold Hid at HS2'
          rw [HD2.out] at HS2'
          replace HS2' := hide HS2'
          have HC := hide hc2
          clear hc1 hc2 HS2
          go_wp2_with fail
          refine HS1.out.mono ?_
          rintro e w3 ⟨rfl, n, rfl⟩
          go_wp2_with fail
          refine (HS2'.out n).mono ?_
          rintro e w3 ⟨rfl, n2, rfl⟩
          have HR3 : Hid (RT (w2.drewN (n + n2)) rb l3 b3 off) := VRow.drewN h3.out (n + n2)
          go_wp2_with fail
          refine (jPls_any l3 b3 off rb _ HR3.out hl36).mono ?_
          rintro e w4 ⟨⟨yv, qs⟩, l4, b4, o4, rfl, hy, h4, u4, p4, hl46⟩
          obtain ⟨ya, yn, yc, rfl⟩ : ∃ a n c, yv = .slice a n c := own_shape hy.row
          have HU4 : Hid (Fr (· = rb) w w4) := ((HF.out.trans u3.out).drewN (n + n2)).trans u4
          have HX4 : Hid (L3.ok w4 ⟨.slice ya yn yc, qs⟩) := hy
          have HP : Hid ((if false = true then none else Js.memS l2 off) = if b4 = true then none else some (Js.M.coords (L3.m ⟨.slice ya yn yc, qs⟩), l4, o4)) := by
            refine Js.memS_of p3.out ?_
            rw [HC.out, Js.memV_list]
            exact Js.bad_map (R := (none : Option (Js.M × List UInt8 × Bool))) (f := fun y => (Js.M.coords y.1, y.2)) p4
          have HLT : Hid (b4 = false → l4.length + 1 ≤ l2.length) := fun e => by
            have h := HP.out
            rw [e] at h
            exact (Js.memS_lt l2 off _ _ _ h).1
          replace h4 := hide h4
          clear u4 p4 hy
          obtain ⟨hg1, hg2⟩ := Js.go_on (e := 125) (bad := false) HT.out HP.out
          replace hg1 := hide hg1
          replace hg2 := hide hg2
          have HN := hide (nextE_any 125 l4 b4 o4 rb w4 h4.out (by omega))
          go_wp2_with fail
          refine HN.out.mono ?_
          rintro e w6 ⟨l6, b6, rfl, h6, u6, hl6, hn1, hn2⟩
          obtain ⟨M, hM⟩ : ∃ M, M = (!b4 && Tx.pre [44] (Tx.bare l4)) := ⟨_, rfl⟩
          rw [← hM] at hn1 hn2 hg1 hg2 ⊢
          have HX6 := hide (HX4.out.rt h4.out u6)
          replace hn1 := hide hn1
          replace hn2 := hide hn2
          have HMM := hide hM
          replace h6 := hide h6
          replace u6 := hide u6
          clear hM
          go_wp2
          go_roundw
          case rel =>
            refine ⟨k - 1, r ++ [Js.M.coords (L3.m ⟨.slice ya yn yc, qs⟩)], l6, b6, o4, M, ⟨.slice ya yn yc, qs⟩, rfl, by rw [Js.types_snoc, ← HTN.out]; rfl, by rw [Js.places_coords, List.length_append, ← HPN.out]; rfl, rfl, HX6, (Js.last_coords r _).symm, h6, HU4.out.trans u6.out, by omega, ?_, fun e => ?_, fun e => ?_⟩
            · intro e
              have a4 : b4 = false ∧ Tx.pre [44] (Tx.bare l4) = true := more_and (HMM.out.symm.trans e)
              have a5 := Wt.aft_len a4.2
              have a6 := Tx.bare_le l4
              have a7 := HLT.out a4.1
              have a8 := (hn1.out e).2
              rw [← a8] at a5
              simp
              omega
            · obtain ⟨a1, a2⟩ := hn1.out e
              have a3 := hg1.out e
              have a4 : b4 = false ∧ Tx.pre [44] (Tx.bare l4) = true := more_and (HMM.out.symm.trans e)
              have a5 := Wt.aft_len a4.2
              have a6 := Tx.bare_le l4
              have a7 := HLT.out a4.1
              rw [← a2] at a3 a5
              refine ⟨a1, by omega, ?_⟩
              rw [show k - 1 + 1 = k by omega]
              exact a3
            · obtain ⟨a1, a2⟩ := hn2.out e
              have a3 := hg2.out e
              rw [← a1] at a3
              rw [a3]
              cases b6
              · rw [a2 rfl]
              · rfl
          case measure =>
            rw [rtM_of h6.out, rtM_of HI.out]
            cases M
            · cases b6 <;> simp [moreN] <;> omega
            · have a4 : b4 = false ∧ Tx.pre [44] (Tx.bare l4) = true := more_and HMM.out.symm
              have a7 := HLT.out a4.1
              cases b6 <;> simp [moreN] <;> omega
        · have HD2 : Hid (decide (c = Js.up [99, 111, 111, 114, 100, 105, 110, 97, 116, 101, 115]) = false) := decide_eq_false hc2
          have HS2' := HS2
          unfold Hid at HS2'
          rw [HD2.out] at HS2'
          replace HS2' := hide HS2'
          have HC1 := hide hc1
          have HC2 := hide hc2
          clear hc1 hc2 HS2
          go_wp2_with fail
          refine HS1.out.mono ?_
          rintro e w3 ⟨rfl, n, rfl⟩
          go_wp2_with fail
          refine (HS2'.out n).mono ?_
          rintro e w3 ⟨rfl, n2, rfl⟩
          have HR3 : Hid (RT (w2.drewN (n + n2)) rb l3 b3 off) := VRow.drewN h3.out (n + n2)
          go_wp2_with fail
          refine (value_any 16 (Nat.le_refl _) l3 b3 off rb _ HR3.out hl36).mono ?_
          rintro e w4 ⟨v, l4, b4, rfl, h4, u4, p4, hl4⟩
          have HU4 : Hid (Fr (· = rb) w w4) := ((HF.out.trans u3.out).drewN (n + n2)).trans u4
          have HX4 : Hid (L3.ok w4 ⟨.slice xa xn xc, ps⟩) := (HX3.out.up ((Up.refl _).drewN (n + n2))).rt HR3.out u4
          have HP : Hid ((if false = true then none else Js.memS l2 off) = if b4 = true then none else some (Js.M.other, l4, off)) := by
            refine Js.memS_of p3.out ?_
            rw [Js.memV_other HC1.out HC2.out]
            exact Js.bad_map (R := (none : Option (Js.M × List UInt8 × Bool))) (f := fun y => (Js.M.other, y.2, off)) p4
          have HLT : Hid (b4 = false → l4.length + 1 ≤ l2.length) := fun e => by
            have h := HP.out
            rw [e] at h
            exact (Js.memS_lt l2 off _ _ _ h).1
          have hl46 : l4.length ≤ 6000 := by omega
          replace h4 := hide h4
          clear u4 p4
          obtain ⟨hg1, hg2⟩ := Js.go_on (e := 125) (bad := false) HT.out HP.out
          replace hg1 := hide hg1
          replace hg2 := hide hg2
          have HN := hide (nextE_any 125 l4 b4 off rb w4 h4.out (by omega))
          go_wp2_with fail
          refine HN.out.mono ?_
          rintro e w6 ⟨l6, b6, rfl, h6, u6, hl6, hn1, hn2⟩
          obtain ⟨M, hM⟩ : ∃ M, M = (!b4 && Tx.pre [44] (Tx.bare l4)) := ⟨_, rfl⟩
          rw [← hM] at hn1 hn2 hg1 hg2 ⊢
          have HX6 := hide (HX4.out.rt h4.out u6)
          replace hn1 := hide hn1
          replace hn2 := hide hn2
          have HMM := hide hM
          replace h6 := hide h6
          replace u6 := hide u6
          clear hM
          go_wp2
          go_roundw
          case rel =>
            refine ⟨k - 1, r ++ [Js.M.other], l6, b6, off, M, ⟨.slice xa xn xc, ps⟩, rfl, by rw [Js.types_snoc, ← HTN.out]; rfl, by rw [Js.places_other, ← HPN.out], rfl, HX6, HLS.out.trans (Js.last_other r).symm, h6, HU4.out.trans u6.out, by omega, ?_, fun e => ?_, fun e => ?_⟩
            · intro e
              have a4 : b4 = false ∧ Tx.pre [44] (Tx.bare l4) = true := more_and (HMM.out.symm.trans e)
              have a5 := Wt.aft_len a4.2
              have a6 := Tx.bare_le l4
              have a7 := HLT.out a4.1
              have a8 := (hn1.out e).2
              rw [← a8] at a5
              simp
              omega
            · obtain ⟨a1, a2⟩ := hn1.out e
              have a3 := hg1.out e
              have a4 : b4 = false ∧ Tx.pre [44] (Tx.bare l4) = true := more_and (HMM.out.symm.trans e)
              have a5 := Wt.aft_len a4.2
              have a6 := Tx.bare_le l4
              have a7 := HLT.out a4.1
              rw [← a2] at a3 a5
              refine ⟨a1, by omega, ?_⟩
              rw [show k - 1 + 1 = k by omega]
              exact a3
            · obtain ⟨a1, a2⟩ := hn2.out e
              have a3 := hg2.out e
              rw [← a1] at a3
              rw [a3]
              cases b6
              · rw [a2 rfl]
              · rfl
          case measure =>
            rw [rtM_of h6.out, rtM_of HI.out]
            cases M
            · cases b6 <;> simp [moreN] <;> omega
            · have a4 : b4 = false ∧ Tx.pre [44] (Tx.bare l4) = true := more_and HMM.out.symm
              have a7 := HLT.out a4.1
              cases b6 <;> simp [moreN] <;> omega

set_option maxRecDepth 100000 in
set_option maxHeartbeats 1000000 in
theorem jRead_any (l : List UInt8) (w : World) (hl : l.length ≤ 6000) :
    Calls Tryz.prog 102 #[.string (bs l)] w (ReadPost (Js.err l) (Js.got l) w) := by
  have hnew := VRow.new w [.string (bs l), .bool false, .bool false] 168
  have HS := hide (jSet_any l w.heap.size _ hnew hl)
  clear hnew
  unfold ReadPost
  go_enter Tryz.func102, Tryz.ntmps102
  go_wp2_with fail
  refine HS.out.mono ?_
  rintro e w1 ⟨⟨xv, ps⟩, t, bad, off, rfl, hx, h1, u1, hp, ht⟩
  obtain ⟨xa, xn, xc, rfl⟩ : ∃ a n c, xv = .slice a n c := own_shape hx.row
  have HU : Hid (Up w w1) := ((Fr.of_up ((Up.refl w).alloc _)).then u1 (T := (· = w.heap.size)) (S := fun x => w.heap.size ≤ x) (fun x _ e => by omega)).up (fun x hx => by omega)
  have HE := hide (Js.err_of hp)
  have HG := hide (fun h => Js.got_of hp h)
  have HX := hide hx
  have HRT := hide h1
  clear hx h1 u1 hp
  obtain ⟨F, hF⟩ : ∃ F, F = Tx.fin (Tx.bare t) bad off := ⟨_, rfl⟩
  have HA := hide (answer_any t bad off w.heap.size xa xn xc w1 HRT.out ht)
  rw [← hF] at HE HA
  have HFF := hide hF
  clear hF
  go_wp2_with fail
  refine HA.out.mono ?_
  rintro e w2 ⟨rfl, u2⟩
  have HU2 : Hid (Up w w2) := ((Fr.of_up HU.out).then u2 (T := (· = w.heap.size)) (S := fun x => w.heap.size ≤ x) (fun x _ e => by omega)).up (fun x hx => by omega)
  have HX2 : Hid (L3.ok w2 ⟨.slice xa xn xc, ps⟩) := HX.out.fr u2 (fun b hb e => HX.out.row_ne HRT.out (by decide) (by decide) (by decide) (e ▸ hb))
  clear u2
  by_cases h0 : F = 0
  · rw [if_pos h0]
    have HH0 := hide h0
    clear h0
    go_wp2
    go_ret2
    exact ⟨⟨.slice xa xn xc, ps⟩, by rw [HE.out]; rfl, HX2.out, fun _ => (HG.out (Wt.fin_bad (HFF.out.symm.trans HH0.out))).symm, HU2.out⟩
  · rw [if_neg h0]
    have HH0 := hide h0
    clear h0
    go_wp2
    go_ret2
    exact ⟨nil3, by rw [HE.out]; rfl, nil3_ok _, (fun e => absurd (HE.out.symm.trans e) HH0.out), HU2.out⟩

set_option maxHeartbeats 1000000 in
theorem read2_any (l : List UInt8) (w : World) (hl : l.length ≤ 6000) :
    Calls Tryz.prog 63 #[.int .i64 2, .string (bs l)] w (ReadPost (Js.err l) (Js.got l) w) := by
  unfold ReadPost
  go_enter Tryz.func63, Tryz.ntmps63
  go_wp2_with (go_at_call 102; refine (jRead_any l _ hl).mono ?_; rintro e w1 ⟨X, rfl, h⟩; replace h := hide h)
  go_ret2
  exact ⟨X, rfl, h.out⟩
end Go.Proofs.YtcclepohmhdpbaaGreatDoor

/- THE DOCUMENT's JSON: characters. -/
namespace Go.Proofs.YtcclepohmhdpbaaGreatDoor
set_option linter.all false
open Go.RowKit Go.Deep

namespace Js
def sm : List UInt8 := [48, 49, 50, 51, 52, 53, 54, 55, 56, 57, 97, 98, 99, 100, 101, 102]
def gr : List UInt8 := [48, 49, 50, 51, 52, 53, 54, 55, 56, 57, 65, 66, 67, 68, 69, 70]
def nm : List UInt8 := [34, 92, 47, 98, 102, 110, 114, 116]
def ms : List Int := [34, 92, 47, 8, 12, 10, 13, 9]
theorem hex_at : ∀ i : Fin 16, hexd (Tx.at_ sm i.val) = some (i.val : Int) ∧ hexd (Tx.at_ gr i.val) = some (i.val : Int) := by decide
theorem hex_hit {x : Int} {i : Nat} (hi : i < 16) (h : Tx.at_ sm i = x ∨ Tx.at_ gr i = x) : hexd x = some (i : Int) := by
  rcases h with h | h
  · rw [← h]; exact (hex_at ⟨i, hi⟩).1
  · rw [← h]; exact (hex_at ⟨i, hi⟩).2
theorem dig_at : (∀ i : Fin 10, Tx.at_ sm i.val = (i.val : Int) + 48) ∧ ∀ i : Fin 6, Tx.at_ sm (i.val + 10) = (i.val : Int) + 97 ∧ Tx.at_ gr (i.val + 10) = (i.val : Int) + 65 := by decide
theorem hex_miss {x : Int} (h : ∀ i, i < 16 → Tx.at_ sm i ≠ x ∧ Tx.at_ gr i ≠ x) : hexd x = none := by
  unfold hexd
  split
  · rename_i hx
    have h1 := dig_at.1 ⟨(x - 48).toNat, by omega⟩
    exact absurd (h1.trans (by simp only; omega)) (h (x - 48).toNat (by omega)).1
  · split
    · rename_i hx
      have h1 := (dig_at.2 ⟨(x - 97).toNat, by omega⟩).1
      exact absurd (h1.trans (by simp only; omega)) (h ((x - 97).toNat + 10) (by omega)).1
    · split
      · rename_i hx
        have h1 := (dig_at.2 ⟨(x - 65).toNat, by omega⟩).2
        exact absurd (h1.trans (by simp only; omega)) (h ((x - 65).toNat + 10) (by omega)).2
      · rfl
theorem mean_at : ∀ i : Fin 8, mean (Tx.at_ nm i.val) = ms[i.val]? ∧ Tx.at_ nm i.val ≠ 117 := by decide
theorem mean_miss {x : Int} (h : ∀ i, i < 8 → Tx.at_ nm i ≠ x) : mean x = none := by
  have e0 := h 0 (by omega)
  have e1 := h 1 (by omega)
  have e2 := h 2 (by omega)
  have e3 := h 3 (by omega)
  have e4 := h 4 (by omega)
  have e5 := h 5 (by omega)
  have e6 := h 6 (by omega)
  have e7 := h 7 (by omega)
  replace e0 : (34 : Int) ≠ x := e0
  replace e1 : (92 : Int) ≠ x := e1
  replace e2 : (47 : Int) ≠ x := e2
  replace e3 : (98 : Int) ≠ x := e3
  replace e4 : (102 : Int) ≠ x := e4
  replace e5 : (110 : Int) ≠ x := e5
  replace e6 : (114 : Int) ≠ x := e6
  replace e7 : (116 : Int) ≠ x := e7
  unfold mean
  rw [if_neg (by omega), if_neg (by omega), if_neg (by omega), if_neg (by omega), if_neg (by omega), if_neg (by omega)]
theorem code_short : ∀ (k : Nat) (v : Int) (l : List UInt8), l.length < k → code k v l = none
  | 0, v, l, h => by omega
  | k + 1, v, l, h => by
    simp only [code]
    cases hd : hexd (Tx.at_ l 0) with
    | none => rfl
    | some d =>
      simp only [Option.bind_some]
      refine code_short k _ _ ?_
      rw [List.length_drop]
      have : 0 < l.length := by
        cases l with
        | nil => simp [Tx.at_, hexd] at hd
        | cons a t => simp
      omega
theorem code_next {l : List UInt8} {j : Nat} {v : Int} (hj : j < 5) (h1 : 1 ≤ j) (hl : 5 ≤ l.length) : code (5 - j) v (l.drop j) = (hexd (Tx.at_ l j)).bind fun d => code (5 - (j + 1)) (v * 16 + d) (l.drop (j + 1)) := by
  rw [show 5 - j = (5 - (j + 1)) + 1 by omega]
  simp only [code]
  rw [Tx.at_drop, Nat.add_zero]
  congr 1
  funext d
  rw [List.drop_drop]
end Js

set_option maxRecDepth 100000 in
set_option maxHeartbeats 4000000 in
theorem hex_any (x : Int) (w : World) :
    Calls Tryz.prog 195 #[.int .u8 x] w fun e w' => e = .returned (.int .i64 ((Js.hexd x).getD (-1))) ∧ w' = w := by
  have hs : ∀ (i : Nat) (h : i < (⟨#[48, 49, 50, 51, 52, 53, 54, 55, 56, 57, 97, 98, 99, 100, 101, 102]⟩ : ByteArray).size), (((⟨#[48, 49, 50, 51, 52, 53, 54, 55, 56, 57, 97, 98, 99, 100, 101, 102]⟩ : ByteArray)[i]'h).toNat : Int) = Tx.at_ Js.sm i := (bs_tells Js.sm).get
  have hg : ∀ (i : Nat) (h : i < (⟨#[48, 49, 50, 51, 52, 53, 54, 55, 56, 57, 65, 66, 67, 68, 69, 70]⟩ : ByteArray).size), (((⟨#[48, 49, 50, 51, 52, 53, 54, 55, 56, 57, 65, 66, 67, 68, 69, 70]⟩ : ByteArray)[i]'h).toNat : Int) = Tx.at_ Js.gr i := (bs_tells Js.gr).get
  have zs : (⟨#[48, 49, 50, 51, 52, 53, 54, 55, 56, 57, 97, 98, 99, 100, 101, 102]⟩ : ByteArray).size = 16 := rfl
  have zg : (⟨#[48, 49, 50, 51, 52, 53, 54, 55, 56, 57, 65, 66, 67, 68, 69, 70]⟩ : ByteArray).size = 16 := rfl
  go_enter Tryz.func195, Tryz.ntmps195
  go_wp2
  go_loop [3] (fun iv => ∃ i : Nat, i ≤ 16 ∧ iv = .int .i64 i ∧ Hid (∀ j, j < i → Tx.at_ Js.sm j ≠ x ∧ Tx.at_ Js.gr j ≠ x)) (fun iv => 16 - (intOf iv).toNat)
  case atStart => exact ⟨0, by omega, rfl, fun j hj => by omega⟩
  case round =>
    obtain ⟨i, hi, rfl, HN⟩ := hrel
    by_cases hlt : i < 16
    · by_cases h1 : Tx.at_ Js.sm i = x
      · have HE := hide (Js.hex_hit hlt (.inl h1))
        have b1 : (Tx.at_ Js.sm i == x) = true := beq_iff_eq.2 h1
        clear h1
        go_wp2
        go_ret
        exact ⟨by rw [HE.out]; rfl, rfl⟩
      · have b1 : (Tx.at_ Js.sm i == x) = false := beq_eq_false_iff_ne.2 h1
        have H1 := hide h1
        clear h1
        by_cases h2 : Tx.at_ Js.gr i = x
        · have HE := hide (Js.hex_hit hlt (.inr h2))
          have b2 : (Tx.at_ Js.gr i == x) = true := beq_iff_eq.2 h2
          clear h2
          go_wp2
          go_ret
          exact ⟨by rw [HE.out]; rfl, rfl⟩
        · have b2 : (Tx.at_ Js.gr i == x) = false := beq_eq_false_iff_ne.2 h2
          have H2 := hide h2
          clear h2
          go_wp2
          go_round
          case rel =>
            refine ⟨i + 1, by omega, by go_num, fun j hj => ?_⟩
            by_cases hji : j < i
            · exact HN.out j hji
            · obtain rfl : j = i := by omega
              exact ⟨H1.out, H2.out⟩
          case measure => simp [intOf]; omega
    · have HE := hide (Js.hex_miss (x := x) (fun j hj => HN.out j (by omega)))
      go_wp2
      go_ret
      exact ⟨by rw [HE.out]; rfl, rfl⟩
end Go.Proofs.YtcclepohmhdpbaaGreatDoor

/- THE DOCUMENT's JSON: what is escaped. -/
namespace Go.Proofs.YtcclepohmhdpbaaGreatDoor
set_option linter.all false
open Go.RowKit Go.Deep

def DEscPost (l : List UInt8) (w : World) (e : Ending) (w' : World) : Prop :=
  ∃ (v : Int) (n : Nat), e = .returned (.tuple #[.int .i64 v, .int .i64 n]) ∧ Up w w' ∧ n ≤ l.length ∧ Js.esc l = (if n = 0 then none else some (v, l.drop n))

set_option maxRecDepth 100000 in
set_option maxHeartbeats 8000000 in
theorem dEscape_any (l : List UInt8) (w : World) (hl : l.length ≤ 6000) :
    Calls Tryz.prog 151 #[.string (bs l)] w (DEscPost l w) := by
  obtain ⟨e0, e1, -, -, e4, -⟩ := bs_tells l
  have hs : ∀ (i : Nat) (h : i < (⟨#[34, 92, 47, 98, 102, 110, 114, 116]⟩ : ByteArray).size), (((⟨#[34, 92, 47, 98, 102, 110, 114, 116]⟩ : ByteArray)[i]'h).toNat : Int) = Tx.at_ Js.nm i := (bs_tells Js.nm).get
  have zs : (⟨#[34, 92, 47, 98, 102, 110, 114, 116]⟩ : ByteArray).size = 8 := rfl
  obtain ⟨wA, hwA⟩ : ∃ W, W = w.alloc (.cells #[.int .i64 34, .int .i64 92, .int .i64 47, .int .i64 8, .int .i64 12, .int .i64 10, .int .i64 13, .int .i64 9] 3) := ⟨_, rfl⟩
  have HU : Hid (Up w wA) := by rw [hwA]; exact (Up.refl w).alloc _
  have HM : Hid (∀ (i : Nat) (m : Int), Js.ms[i]? = some m → wA.cell? ⟨w.heap.size, i, none⟩ = some (.int .i64 m)) := by
    intro i m hm
    rw [hwA]
    have := VRow.new w (Js.ints Js.ms) 3
    exact VRow.cell this (by simp [Js.ints, hm])
  have HWA := hide hwA
  cases hc0 : l with
  | nil =>
    subst hc0
    clear hwA
    have HE : Hid (Js.esc [] = none) := rfl
    go_enter Tryz.func151, Tryz.ntmps151
    go_wp2
    rw [← HWA.out]
    go_loopw [5] (fun iv wr => iv = .int .i64 0 ∧ wr = wA) (fun _ _ => 0)
    case atStart => exact ⟨rfl, rfl⟩
    case round =>
      obtain ⟨rfl, rfl⟩ := hrel
      go_wp2
      go_ret2
      exact ⟨0, 0, rfl, HU.out, by simp, by rw [HE.out]; rfl⟩
  | cons c0 t0 =>
    rw [← hc0]
    have hpos : 0 < l.length := by rw [hc0]; simp
    have hne : ¬ l = [] := by rw [hc0]; simp
    have hemp : l.isEmpty = false := by rw [hc0]; rfl
    obtain ⟨x, hx⟩ : ∃ x, x = Tx.at_ l 0 := ⟨_, rfl⟩
    have hx1 : Tx.at_ l 0 = x := hx.symm
    have HES : Hid (Js.esc l = if x = 117 then Js.code 4 0 (l.drop 1) else (Js.mean x).map fun v => (v, l.drop 1)) := by
      show _ = _
      rw [hx]; rfl
    clear hx hwA hc0
    go_enter Tryz.func151, Tryz.ntmps151
    go_wp2
    rw [← HWA.out]
    go_loopw [5] (fun iv wr => ∃ i : Nat, i ≤ 8 ∧ iv = .int .i64 i ∧ Hid (∀ j, j < i → Tx.at_ Js.nm j ≠ x) ∧ ∃ n, wr = wA.drewN n) (fun iv _ => 8 - (intOf iv).toNat)
    case atStart => exact ⟨0, by omega, rfl, fun j hj => by omega, 0, rfl⟩
    case round =>
      obtain ⟨i, hi, rfl, HN, n, rfl⟩ := hrel
      by_cases hlt : i < 8
      · by_cases h1 : x = Tx.at_ Js.nm i
        · have HA := hide (Js.mean_at ⟨i, hlt⟩)
          obtain ⟨m, hm⟩ : ∃ m, Js.ms[i]? = some m := ⟨Js.ms[i]'(by simpa [Js.ms] using hlt), List.getElem?_eq_getElem _⟩
          have hcell := HM.out i m hm
          have HE : Hid (Js.esc l = some (m, l.drop 1)) := by
            show _ = _
            rw [HES.out, h1, if_neg HA.out.2, HA.out.1, hm]; rfl
          have b1 : (x == Tx.at_ Js.nm i) = true := beq_iff_eq.2 h1
          clear h1 hm
          go_wp2
          go_quiet (fail)
          go_wp2
          go_ret2
          exact ⟨m, 1, rfl, HU.out.drewN _, by omega, by rw [HE.out]; rfl⟩
        · have b1 : (x == Tx.at_ Js.nm i) = false := beq_eq_false_iff_ne.2 h1
          have H1 := hide h1
          clear h1
          go_wp2
          go_quiet (fail)
          go_wp2
          go_roundw
          case rel =>
            refine ⟨i + 1, by omega, by go_num, fun j hj => ?_, _, rfl⟩
            by_cases hji : j < i
            · exact HN.out j hji
            · obtain rfl : j = i := by omega
              exact fun e => H1.out e.symm
          case measure => simp [intOf]; omega
      · have HMN := hide (Js.mean_miss (x := x) (fun j hj => HN.out j (by omega)))
        by_cases h117 : x = 117
        · have HE : Hid (Js.esc l = Js.code 4 0 (l.drop 1)) := by
            show _ = _
            rw [HES.out, if_pos h117]
          have b117 : (x != 117) = false := by rw [h117]; rfl
          by_cases h5 : l.length < 5
          · have HZ : Hid (Js.esc l = none) := by
              show _ = _
              rw [HE.out]
              exact Js.code_short 4 0 _ (by rw [List.length_drop]; omega)
            clear h117
            go_wp2
            go_ret2
            exact ⟨0, 0, rfl, HU.out.drewN _, by omega, by rw [HZ.out]; rfl⟩
          · have h5' : 5 ≤ l.length := by omega
            clear h117
            go_wp2
            go_loop [6, 7] (fun vv jv => ∃ (j : Nat) (v : Int), 1 ≤ j ∧ j ≤ 5 ∧ vv = .int .i64 v ∧ jv = .int .i64 j ∧ (0 ≤ v ∧ (v < 1 ∨ 1 < j) ∧ (v < 16 ∨ 2 < j) ∧ (v < 256 ∨ 3 < j) ∧ (v < 4096 ∨ 4 < j) ∧ v < 65536) ∧ Hid (Js.esc l = Js.code (5 - j) v (l.drop j))) (fun _ jv => 5 - (intOf jv).toNat)
            case atStart => exact ⟨1, 0, by omega, by omega, rfl, rfl, by omega, HE⟩
            case round =>
              obtain ⟨j, v, hj1, hj5, rfl, rfl, hv, HC⟩ := hrel
              by_cases hj : j < 5
              · have HC2 := HC
                unfold Hid at HC2
                rw [Js.code_next hj hj1 h5'] at HC2
                replace HC2 := hide HC2
                obtain ⟨y, hy⟩ : ∃ y, y = Tx.at_ l j := ⟨_, rfl⟩
                have hy1 : Tx.at_ l j = y := hy.symm
                rw [← hy] at HC2
                have hjl : j < l.length := by omega
                have HH := hide (fun w => hex_any y w)
                clear hy
                cases hd : Js.hexd y with
                | none =>
                  rw [hd] at HC2
                  have HH2 : Hid (∀ w, Calls Tryz.prog 195 #[.int .u8 y] w fun e w' => e = .returned (.int .i64 (-1)) ∧ w' = w) := by
                    intro w
                    have := HH.out w
                    rw [hd] at this
                    exact this
                  clear hd HH
                  go_wp2_with (go_at_call 195; refine (HH2.out _).mono ?_; rintro e w1 ⟨rfl, hw⟩; replace hw := hw.symm; subst hw)
                  go_ret2
                  exact ⟨0, 0, rfl, HU.out.drewN _, by omega, by rw [HC2.out]; rfl⟩
                | some d =>
                  rw [hd] at HC2
                  have hd0 := Js.hexd_le hd
                  have HH2 : Hid (∀ w, Calls Tryz.prog 195 #[.int .u8 y] w fun e w' => e = .returned (.int .i64 d) ∧ w' = w) := by
                    intro w
                    have := HH.out w
                    rw [hd] at this
                    exact this
                  have hdn : ¬ d < 0 := by omega
                  clear hd HH
                  go_wp2_with (go_at_call 195; refine (HH2.out _).mono ?_; rintro e w1 ⟨rfl, hw⟩; replace hw := hw.symm; subst hw)
                  go_round
                  case rel => exact ⟨j + 1, v * 16 + d, by omega, by omega, by go_num, by go_num, by omega, HC2.out⟩
                  case measure => simp [intOf]; omega
              · obtain rfl : j = 5 := by omega
                go_wp2
                go_ret2
                exact ⟨v, 5, rfl, HU.out.drewN _, h5', by rw [HC.out]; rfl⟩
        · have HZ : Hid (Js.esc l = none) := by
            show _ = _
            rw [HES.out, if_neg h117, HMN.out]; rfl
          have b117 : (x != 117) = true := bne_iff_ne.2 h117
          clear h117
          by_cases h5 : l.length < 5
          · go_wp2
            go_ret2
            exact ⟨0, 0, rfl, HU.out.drewN _, by omega, by rw [HZ.out]; rfl⟩
          · go_wp2
            go_ret2
            exact ⟨0, 0, rfl, HU.out.drewN _, by omega, by rw [HZ.out]; rfl⟩
end Go.Proofs.YtcclepohmhdpbaaGreatDoor

/- THE DOCUMENT's JSON: strings. -/
namespace Go.Proofs.YtcclepohmhdpbaaGreatDoor
set_option linter.all false
open Go.RowKit Go.Deep

def DChPost (l : List UInt8) (w : World) (e : Ending) (w' : World) : Prop :=
  ∃ (v : Value) (c : List Int) (t : List UInt8) (ok : Bool), e = .returned (.tuple #[v, .string (bs t), .bool ok]) ∧ w'.ownsRow w.heap.size 3 1 v c.length (Js.ints c) ∧ Up w w' ∧ Js.str l = (if ok = true then some (c, t) else none) ∧ t.length ≤ l.length ∧ c.length ≤ 6000

structure DC (w wr : World) (u : Value) (c : List Int) : Prop where
  own : wr.ownsRow w.heap.size 3 1 u c.length (Js.ints c)
  up : Up w wr
theorem DC.step {w wr w4 w5 : World} {v : Value} {c : List Int} {x : Int} {g cap : Nat} (h : DC w wr v c) (u : Up wr w4) (hown : w5.ownsRow w.heap.size 3 1 (.slice (some ⟨g, 0, none⟩) (c.length + 1) cap) (c.length + 1) (Js.ints c ++ [.int .i64 x])) (hg : (w4.alloc (.cells #[.int .i64 x] 3)).grownBy w5 v.ownBlock) :
    DC w w5 (.slice (some ⟨g, 0, none⟩) (c.length + 1) cap) (c ++ [x]) :=
  ⟨by rw [Js.ints_snoc, List.length_append]; exact hown, up_grown ((h.up.trans u).alloc _) hg fun k hk => (own_lt h.own hk).1⟩
theorem Js.chr_plain {l : List UInt8} {x : Int} (hx : Tx.at_ l 0 = x) (h : x ≠ 92) : Js.chr l = if 32 ≤ x ∧ x ≤ 126 then some (x, l.drop 1) else none := by
  unfold Js.chr
  rw [hx, if_neg h]
theorem Js.chr_esc {l : List UInt8} (h : Tx.at_ l 0 = 92) : Js.chr l = Js.esc (l.drop 1) := by
  unfold Js.chr
  rw [if_pos h]
theorem Js.chr_nil : Js.chr [] = none := rfl

set_option maxRecDepth 100000 in
set_option maxHeartbeats 8000000 in
theorem dChars_any (l : List UInt8) (w : World) (hl : l.length ≤ 6000) :
    Calls Tryz.prog 116 #[.string (bs l)] w (DChPost l w) := by
  by_cases h34 : Tx.at_ l 0 = 34
  · obtain ⟨e0, e1, e2, -, e4, -⟩ := bs_tells l
    have hpos : 0 < l.length := Tx.lt_of_at (by omega)
    have hne : ¬ l = [] := fun e => by rw [e] at hpos; simp at hpos
    have hemp : l.isEmpty = false := by cases l <;> simp_all
    have HST : Hid (Js.str l = Js.pre0 [] (Js.body (l.length + 1) (l.drop 1))) := by
      show _ = _
      unfold Js.str
      rw [if_pos h34, Js.pre0_nil]
    have HS0 : Hid (DC w w (.slice none 0 0) []) := ⟨World.ownsRow_nil _ _ _ _, Up.refl _⟩
    obtain ⟨t1, ht1⟩ : ∃ t, t = l.drop 1 := ⟨_, rfl⟩
    have hx1 : (bs l).extract 1 l.length = bs t1 := by rw [ht1]; exact e2 1
    have hlt1 : t1.length + 1 = l.length := by rw [ht1, List.length_drop]; omega
    rw [← ht1] at HST
    clear ht1 e2
    go_enter Tryz.func116, Tryz.ntmps116
    go_wp2
    go_loopw [0, 5] (fun sv ov wr => ∃ (k : Nat) (c : List Int) (t : List UInt8) (u : Value), sv = .string (bs t) ∧ u = ov ∧ Hid (DC w wr u c) ∧ t.length ≤ k ∧ c.length + t.length ≤ 6000 ∧ t.length ≤ l.length ∧ Hid (Js.str l = Js.pre0 c (Js.body (k + 1) t))) (fun sv _ _ => lenOf sv)
    case atStart => exact ⟨l.length, [], t1, _, rfl, rfl, HS0, by omega, by simp; omega, by omega, HST⟩
    case round =>
      obtain ⟨k, c, t, u, rfl, rfl, HI, hk, hct, htl, HT⟩ := hrel
      obtain ⟨ua, un, uc, rfl⟩ : ∃ a n c, u = .slice a n c := own_shape HI.out.own
      obtain rfl : un = c.length := by obtain ⟨a, c, e⟩ := own_len HI.out.own; cases e; rfl
      clear e0 e1 e4 hx1 h34 hne hemp
      obtain ⟨e0, e1, e2, -, e4, -⟩ := bs_tells t
      by_cases h0 : t = []
      · subst h0
        have HE : Hid (Js.str l = none) := by
          show _ = _
          rw [HT.out]; rfl
        clear HT e2
        go_wp2
        go_ret3
        exact ⟨_, [], [], false, rfl, World.ownsRow_nil _ _ _ _, HI.out.up, by rw [HE.out]; rfl, by simp, by simp⟩
      · have hpos2 : 0 < t.length := List.length_pos_iff.2 h0
        have hemp : t.isEmpty = false := by cases t <;> simp_all
        obtain ⟨x, hx⟩ : ∃ x, x = Tx.at_ t 0 := ⟨_, rfl⟩
        have hx1 : Tx.at_ t 0 = x := hx.symm
        have hx0 : 0 ≤ x ∧ x ≤ 255 := by rw [hx]; exact Tx.at_nn hpos2
        have HX := hide hx1
        obtain ⟨t2, ht2⟩ : ∃ s, s = t.drop 1 := ⟨_, rfl⟩
        have hd1 : (bs t).extract 1 t.length = bs t2 := by rw [ht2]; exact e2 1
        have hlt2 : t2.length + 1 = t.length := by rw [ht2, List.length_drop]; omega
        have HT2 := hide ht2
        clear hx ht2
        by_cases hq : x = 34
        · have HE : Hid (Js.str l = some (c, t2)) := by
            have hp : Tx.pre [34] t = true := (Js.pre1 34 t).2 (by rw [HX.out, hq]; rfl)
            have := Js.body_end HT.out hp
            rw [Tx.aft_t hp] at this
            show _ = _
            rw [this, HT2.out]; rfl
          subst hq
          clear HT e2
          go_wp2
          go_quiet (fail)
          go_wp2
          go_ret3
          exact ⟨_, c, t2, true, rfl, own_up HI.out.own ((Up.refl _).drewN _), HI.out.up.drewN _, by rw [HE.out]; rfl, by omega, by omega⟩
        · have bq : (x != 34) = true := bne_iff_ne.2 hq
          have HP : Hid (Tx.pre [34] t = false) := Js.pre1f (by rw [HX.out]; exact hq)
          clear hq
          by_cases h92 : x = 92
          · have HC : Hid (Js.chr t = Js.esc t2) := by
              show _ = _
              rw [Js.chr_esc (by rw [HX.out]; exact h92), HT2.out]
            have HDE := hide (fun w => dEscape_any t2 w (by omega))
            subst h92
            clear e2
            go_wp2_with fail
            refine (HDE.out _).mono ?_
            rintro e w4 ⟨v, n, rfl, u4, hn, p4⟩
            by_cases hn0 : n = 0
            · subst hn0
              have HE : Hid (Js.str l = none) := by
                have := Js.body_go (b := true) (v := 0) (l' := []) HT.out HP.out (by rw [HC.out, p4]; rfl)
                exact this
              replace u4 := hide u4
              clear p4
              go_wp2
              go_ret3
              exact ⟨_, [], t, false, rfl, World.ownsRow_nil _ _ _ _, HI.out.up.trans u4.out, by rw [HE.out]; rfl, by omega, by simp⟩
            · have hn1 : ((n : Int) == 0) = false := beq_eq_false_iff_ne.2 (by omega)
              obtain ⟨t3, ht3⟩ : ∃ s, s = t2.drop n := ⟨_, rfl⟩
              have HG : Hid (Js.str l = Js.pre0 (c ++ [v]) (Js.body k t3)) := by
                have := Js.body_go (b := false) (v := v) (l' := t3) HT.out HP.out (by rw [HC.out, p4, if_neg hn0, ht3]; rfl)
                exact this
              have hl3 : t3.length + n + 1 = t.length := by rw [ht3, List.length_drop]; omega
              have hd3 : (bs t).extract (1 + n) t.length = bs t3 := by
                rw [(bs_tells t).drop, ht3, HT2.out, List.drop_drop]
              have HO : Hid (w4.ownsRow w.heap.size 3 1 (.slice ua c.length uc) c.length (Js.ints c)) := own_up HI.out.own u4
              have HOA := hide (HO.out.alloc (.cells #[.int .i64 v] 3))
              have hrb : Hid (c.length ≤ 1073741824) := by show _ ≤ _; omega
              have hsz4 := hide (HI.out.up.trans u4).size
              replace u4 := hide u4
              clear p4 ht3 hn0
              go_wp2_with (at_builtin; refine wpList_app el_ints rfl (.tmp 54) (.tmp 56) rfl w.heap.size _ _ _ (by rfl) HOA.out w4.heap.size [.int .i64 v] (by rfl) rfl (heap_alloc_new w4 _) (by intro u hu; simp at hu; subst hu; rfl) hrb.out (by simp; have := hsz4.out; omega) ?_; intro g cap w5 hown5 hg5 hat5 hlt5; have hq5 := hide (HI.out.step u4.out hown5 hg5); clear hat5 hlt5 hown5 hg5)
              go_roundw
              case rel =>
                refine ⟨k - 1, c ++ [v], t3, _, by simp [hd3], rfl, hq5, by omega, by simp; omega, by omega, ?_⟩
                show _ = _
                rw [show k - 1 + 1 = k by omega]
                exact HG.out
              case measure => simp [lenOf, hd3, bs_size]; omega
          · have HC := hide (Js.chr_plain HX.out h92)
            have b92 : (x != 92) = true := bne_iff_ne.2 h92
            clear h92
            by_cases h32 : x < 32
            · have HE : Hid (Js.str l = none) := Js.body_go (b := true) (v := 0) (l' := []) HT.out HP.out (by rw [HC.out, if_neg (by omega)]; rfl)
              clear e2
              go_wp2
              go_ret3
              exact ⟨_, [], t, false, rfl, World.ownsRow_nil _ _ _ _, HI.out.up, by rw [HE.out]; rfl, by omega, by simp⟩
            · by_cases h126 : 126 < x
              · have HE : Hid (Js.str l = none) := Js.body_go (b := true) (v := 0) (l' := []) HT.out HP.out (by rw [HC.out, if_neg (by omega)]; rfl)
                clear e2
                go_wp2
                go_ret3
                exact ⟨_, [], t, false, rfl, World.ownsRow_nil _ _ _ _, HI.out.up, by rw [HE.out]; rfl, by omega, by simp⟩
              · have HG : Hid (Js.str l = Js.pre0 (c ++ [x]) (Js.body k t2)) := by
                  have := Js.body_go (b := false) (v := x) (l' := t2) HT.out HP.out (by rw [HC.out, if_pos (by omega), HT2.out]; rfl)
                  exact this
                have hwr : wrap64 x = x := by unfold wrap64; omega
                have HOA := hide (HI.out.own.alloc (.cells #[.int .i64 x] 3))
                have hrb : Hid (c.length ≤ 1073741824) := by show _ ≤ _; omega
                have hsz4 := hide HI.out.up.size
                clear e2
                go_wp2_with (at_builtin; refine wpList_app el_ints rfl (.tmp 37) (.tmp 41) rfl w.heap.size _ _ _ (by rfl) HOA.out wr.heap.size [.int .i64 x] (by rfl) rfl (heap_alloc_new wr _) (by intro u hu; simp at hu; subst hu; rfl) hrb.out (by simp; have := hsz4.out; omega) ?_; intro g cap w5 hown5 hg5 hat5 hlt5; have hq5 := hide (HI.out.step (Up.refl _) hown5 hg5); clear hat5 hlt5 hown5 hg5)
                go_roundw
                case rel =>
                  refine ⟨k - 1, c ++ [x], t2, _, by simp [hd1], rfl, hq5, by omega, by simp; omega, by omega, ?_⟩
                  show _ = _
                  rw [show k - 1 + 1 = k by omega]
                  exact HG.out
                case measure => simp [lenOf, hd1, bs_size]; omega
  · have HE : Hid (Js.str l = none) := by
      show _ = _
      unfold Js.str
      rw [if_neg h34]
    obtain ⟨e0, e1, -, -, e4, -⟩ := bs_tells l
    cases l with
    | nil =>
      go_enter Tryz.func116, Tryz.ntmps116
      go_wp2
      go_ret3
      exact ⟨_, [], [], false, rfl, World.ownsRow_nil _ _ _ _, Up.refl _, by rw [HE.out]; rfl, by simp, by simp⟩
    | cons a r =>
      have hb : (Tx.at_ (a :: r) 0 != 34) = true := bne_iff_ne.2 h34
      have hpos : 0 < (a :: r).length := by simp
      obtain ⟨t, ht⟩ : ∃ t, a :: r = t := ⟨_, rfl⟩
      have hne : ¬ t = [] := by rw [← ht]; simp
      have hemp : t.isEmpty = false := by rw [← ht]; rfl
      rw [ht] at hb hpos e0 e1 e4 hl HE ⊢
      clear ht h34
      go_enter Tryz.func116, Tryz.ntmps116
      go_wp2
      go_ret3
      exact ⟨_, [], t, false, rfl, World.ownsRow_nil _ _ _ _, Up.refl _, by rw [HE.out]; rfl, by simp, by simp⟩
end Go.Proofs.YtcclepohmhdpbaaGreatDoor

/- THE DOCUMENT's JSON: values, as they lie. -/
namespace Go.Proofs.YtcclepohmhdpbaaGreatDoor
set_option linter.all false
open Go.RowKit Go.Deep

namespace Js
/-- A name as it lies. -/
structure NC where
  v : Value
  c : List Int
structure NC.ok (K : Nat → Prop) (w : World) (y : NC) : Prop where
  own : w.ownsRow 0 3 1 y.v y.c.length (ints y.c)
  blk : ∀ g, y.v.ownBlock = some g → K g
  len : y.c.length ≤ 6000
def vcells (kind : Int) (s : List UInt8) (cv nv lv : Value) (d : Int) : List Value := [.int .i64 kind, .string (bs s), cv, nv, lv, .int .i64 d]
def nilS : Value := .slice none 0 0
def ptr (b : Nat) : Value := .pointer (some ⟨b, 0, none⟩)
def names : V → List (List Int)
  | .cons n _ r => n :: names r
  | _ => []
/-- A list's or an object's rows. -/
structure Rows (K : Nat → Prop) (w : World) (nv lv : Value) (ys : List NC) (qs : List Nat) : Prop where
  ownN : w.ownsRow 0 24 1 nv ys.length (ys.map NC.v)
  ownL : w.ownsRow 0 105 1 lv qs.length (qs.map ptr)
  blkN : ∀ g, nv.ownBlock = some g → K g
  blkL : ∀ g, lv.ownBlock = some g → K g
  oks : ∀ y ∈ ys, y.ok K w
  len : qs.length ≤ 6000
  lenN : ys.length ≤ 6000
def isVal : V → Bool
  | .nil => false
  | .cons _ _ _ => false
  | _ => true
def Ok (K : Nat → Prop) (w : World) : V → List Nat → Prop
  | .word, ps => ∃ b, ps = [b] ∧ K b ∧ VRow w b 111 (vcells 0 [] nilS nilS nilS 0)
  | .num s, ps => ∃ b, ps = [b] ∧ K b ∧ VRow w b 111 (vcells 1 s nilS nilS nilS 0) ∧ Du.Shape s ∧ s.length ≤ 6000
  | .txt c, ps => ∃ b cv, ps = [b] ∧ K b ∧ VRow w b 111 (vcells 2 [] cv nilS nilS 0) ∧ NC.ok K w ⟨cv, c⟩
  | .nil, ps => ps = []
  | .cons _ v r, ps => ∃ p qs, ps = p :: qs ∧ Ok K w v [p] ∧ Ok K w r qs ∧ isVal v = true ∧ ∀ q ∈ qs, p < q
  | .lst m, ps => ∃ b lv qs, ps = [b] ∧ K b ∧ VRow w b 111 (vcells 3 [] nilS nilS lv ((m.deep : Int) + 1)) ∧ Rows K w nilS lv [] qs ∧ Ok K w m qs ∧ ∃ acc, m = ofM acc
  | .obj m, ps => ∃ b nv lv ys qs, ps = [b] ∧ K b ∧ VRow w b 111 (vcells 4 [] nilS nv lv ((m.deep : Int) + 1)) ∧ Rows K w nv lv ys qs ∧ ys.map NC.c = names m ∧ Ok K w m qs ∧ ∃ acc, m = ofM acc

theorem NC.ok.of {K K' : Nat → Prop} {w w' : World} {y : NC} (h : y.ok K w) (he : ∀ b, K b → w'.heap[b]? = w.heap[b]?) (hk : ∀ b, K b → K' b) : y.ok K' w' :=
  ⟨own_of_block h.own fun g hg => he g (h.blk g hg), fun g hg => hk g (h.blk g hg), h.len⟩
theorem Rows.of {K K' : Nat → Prop} {w w' : World} {nv lv : Value} {ys : List NC} {qs : List Nat} (h : Rows K w nv lv ys qs) (he : ∀ b, K b → w'.heap[b]? = w.heap[b]?) (hk : ∀ b, K b → K' b) : Rows K' w' nv lv ys qs :=
  ⟨own_of_block h.ownN fun g hg => he g (h.blkN g hg), own_of_block h.ownL fun g hg => he g (h.blkL g hg), fun g hg => hk g (h.blkN g hg), fun g hg => hk g (h.blkL g hg), fun y hy => (h.oks y hy).of he hk, h.len, h.lenN⟩
theorem Ok.of {K K' : Nat → Prop} {w w' : World} (he : ∀ b, K b → w'.heap[b]? = w.heap[b]?) (hk : ∀ b, K b → K' b) : ∀ {v : V} {ps : List Nat}, Ok K w v ps → Ok K' w' v ps
  | .word, ps, ⟨b, h1, h2, h3⟩ => ⟨b, h1, hk b h2, h3.of_block (he b h2)⟩
  | .num s, ps, ⟨b, h1, h2, h3, h4⟩ => ⟨b, h1, hk b h2, h3.of_block (he b h2), h4⟩
  | .txt c, ps, ⟨b, cv, h1, h2, h3, h4⟩ => ⟨b, cv, h1, hk b h2, h3.of_block (he b h2), h4.of he hk⟩
  | .nil, ps, h => h
  | .cons n v r, ps, ⟨p, qs, h1, h2, h3, h4⟩ => ⟨p, qs, h1, Ok.of he hk h2, Ok.of he hk h3, h4⟩
  | .lst m, ps, ⟨b, lv, qs, h1, h2, h3, h4, h5, h6⟩ => ⟨b, lv, qs, h1, hk b h2, h3.of_block (he b h2), h4.of he hk, Ok.of he hk h5, h6⟩
  | .obj m, ps, ⟨b, nv, lv, ys, qs, h1, h2, h3, h4, h5, h6, h7⟩ => ⟨b, nv, lv, ys, qs, h1, hk b h2, h3.of_block (he b h2), h4.of he hk, h5, Ok.of he hk h6, h7⟩
theorem Ok.up {K : Nat → Prop} {w w' : World} {v : V} {ps : List Nat} (h : Ok K w v ps) (u : Up w w') (hk : ∀ b, K b → b < w.heap.size) : Ok K w' v ps := Ok.of (fun b hb => u.block b (hk b hb)) (fun _ h => h) h

theorem names_ofM : ∀ r : List (List Int × V), names (ofM r) = r.map Prod.fst
  | [] => rfl
  | x :: r => by simp [ofM, names, names_ofM r]
theorem Ok.snoc {K : Nat → Prop} {w : World} {n : List Int} {v : V} {p : Nat} (hv : Ok K w v [p]) (hi : isVal v = true) : ∀ {acc : List (List Int × V)} {ps : List Nat}, Ok K w (ofM acc) ps → (∀ q ∈ ps, q < p) → Ok K w (ofM (acc ++ [(n, v)])) (ps ++ [p])
  | [], ps, h, _ => by
    have h' : ps = [] := h
    subst h'
    exact ⟨p, [], rfl, hv, rfl, hi, by simp⟩
  | x :: acc, ps, ⟨q, qs, h1, h2, h3, h5, h4⟩, hq => by
    subst h1
    refine ⟨q, qs ++ [p], rfl, h2, Ok.snoc hv hi h3 (fun r hr => hq r (by simp [hr])), h5, fun r hr => ?_⟩
    rcases List.mem_append.1 hr with hr | hr
    · exact h4 r hr
    · simp at hr
      rw [hr]
      exact hq q (by simp)
theorem Ok.kids {K : Nat → Prop} {w : World} : ∀ {acc : List (List Int × V)} {ps : List Nat}, Ok K w (ofM acc) ps → ps.length = acc.length ∧ (∀ (i : Nat) (p : Nat), ps[i]? = some p → ∃ x : List Int × V, acc[i]? = some x ∧ Ok K w x.2 [p] ∧ isVal x.2 = true)
  | [], ps, h => by
    have h' : ps = [] := h
    subst h'
    exact ⟨rfl, fun i p hp => by simp at hp⟩
  | x :: acc, ps, ⟨q, qs, h1, h2, h3, h5, h4⟩ => by
    subst h1
    obtain ⟨e1, e2⟩ := Ok.kids h3
    refine ⟨by simp [e1], fun i p hp => ?_⟩
    cases i with
    | zero => simp at hp; subst hp; exact ⟨x, rfl, h2, h5⟩
    | succ i => simpa using e2 i p (by simpa using hp)
theorem Ok.sorted {K : Nat → Prop} {w : World} : ∀ {acc : List (List Int × V)} {ps : List Nat}, Ok K w (ofM acc) ps → ps.Pairwise (· < ·)
  | [], ps, h => by
    have h' : ps = [] := h
    subst h'
    exact .nil
  | x :: acc, ps, ⟨q, qs, h1, h2, h3, h5, h4⟩ => by
    subst h1
    exact .cons h4 (Ok.sorted h3)
theorem Ok.one {K : Nat → Prop} {w : World} {v : V} {p : Nat} (h : Ok K w v [p]) (hi : isVal v = true) : K p ∧ ∃ kd s cv nv lv, VRow w p 111 (vcells kd s cv nv lv v.deep) := by
  cases v with
  | word => obtain ⟨b, h1, h2, h3⟩ := h; cases h1; exact ⟨h2, _, _, _, _, _, h3⟩
  | num s => obtain ⟨b, h1, h2, h3, h4⟩ := h; cases h1; exact ⟨h2, _, _, _, _, _, h3⟩
  | txt c => obtain ⟨b, cv, h1, h2, h3, h4⟩ := h; cases h1; exact ⟨h2, _, _, _, _, _, h3⟩
  | nil => cases hi
  | cons n a r => cases hi
  | lst m => obtain ⟨b, lv, qs, h1, h2, h3, h4⟩ := h; cases h1; exact ⟨h2, _, _, _, _, _, h3⟩
  | obj m => obtain ⟨b, nv, lv, ys, qs, h1, h2, h3, h4⟩ := h; cases h1; exact ⟨h2, _, _, _, _, _, h3⟩
theorem deep_snoc : ∀ (acc : List (List Int × V)) (x : List Int × V), (ofM (acc ++ [x])).deep = Nat.max (ofM acc).deep x.2.deep
  | [], x => by simp [ofM, V.deep]
  | y :: acc, x => by
    simp only [List.cons_append, ofM, V.deep, deep_snoc acc x]
    exact (Nat.max_assoc _ _ _).symm
end Js

theorem el_vals : Elem Tryz.prog 109 105 (.pointer none) 1 8 := ⟨by kernel_rfl, by kernel_rfl, rfl, by omega, by omega⟩
theorem el_names : Elem Tryz.prog 108 24 (.slice none 0 0) 1 24 := ⟨by kernel_rfl, by kernel_rfl, rfl, by omega, by omega⟩

/-- What is new since w, but for what is still being built. -/
def KK (w wr : World) (bv : Nat) (nv lv : Value) (b : Nat) : Prop := w.heap.size ≤ b ∧ b < wr.heap.size ∧ b ≠ bv ∧ nv.ownBlock ≠ some b ∧ lv.ownBlock ≠ some b

/-- A list or an object that is being read. -/
structure MI (w wr : World) (bv : Nat) (kind : Int) (nv lv : Value) (dp : Nat) (acc : List (List Int × Js.V)) (ys : List Js.NC) (ps : List Nat) : Prop where
  row : VRow wr bv 111 (Js.vcells kind [] Js.nilS nv lv dp)
  bv0 : w.heap.size ≤ bv
  up : Up w wr
  ownN : wr.ownsRow w.heap.size 24 1 nv ys.length (ys.map Js.NC.v)
  ownL : wr.ownsRow w.heap.size 105 1 lv ps.length (ps.map Js.ptr)
  oks : ∀ y ∈ ys, y.ok (KK w wr bv nv lv) wr
  kids : Js.Ok (KK w wr bv nv lv) wr (Js.ofM acc) ps
  pls : ∀ p ∈ ps, p < wr.heap.size

theorem MI.ups {w wr w' : World} {bv : Nat} {kind : Int} {nv lv : Value} {dp : Nat} {acc : List (List Int × Js.V)} {ys : List Js.NC} {ps : List Nat} (h : MI w wr bv kind nv lv dp acc ys ps) (u : Up wr w') : MI w w' bv kind nv lv dp acc ys ps := by
  have hs := u.size
  have he : ∀ b, KK w wr bv nv lv b → w'.heap[b]? = wr.heap[b]? := fun b hb => u.block b hb.2.1
  have hk : ∀ b, KK w wr bv nv lv b → KK w w' bv nv lv b := fun b hb => ⟨hb.1, by have := hb.2.1; omega, hb.2.2⟩
  exact ⟨h.row.of_block (u.block _ h.row.lt), h.bv0, h.up.trans u, own_up h.ownN u, own_up h.ownL u, fun y hy => (h.oks y hy).of he hk, Js.Ok.of he hk h.kids, fun p hp => by have := h.pls p hp; omega⟩

theorem MI.name {w wr w2 w5 : World} {bv : Nat} {kind : Int} {nv lv : Value} {dp : Nat} {acc : List (List Int × Js.V)} {ys : List Js.NC} {ps : List Nat} {cv : Value} {c : List Int} {g cap : Nat} (h : MI w wr bv kind nv lv dp acc ys ps) (u : Up wr w2) (hy : w2.ownsRow wr.heap.size 3 1 cv c.length (Js.ints c)) (hc : c.length ≤ 6000)
    (hown : w5.ownsRow w.heap.size 24 1 (.slice (some ⟨g, 0, none⟩) (ys.length + 1) cap) (ys.length + 1) (ys.map Js.NC.v ++ [cv])) (hg : (w2.alloc (.cells #[cv] 24)).grownBy w5 nv.ownBlock) (hat : nv.ownBlock = some g ∨ g = (w2.alloc (.cells #[cv] 24)).heap.size) (hlt : g < w5.heap.size) :
    MI w (w5.setCell ⟨bv, 3, none⟩ (.slice (some ⟨g, 0, none⟩) (ys.length + 1) cap)) bv kind (.slice (some ⟨g, 0, none⟩) (ys.length + 1) cap) lv dp acc (ys ++ [⟨cv, c⟩]) ps := by
  have h2 := h.ups u
  have hA := h2.ups ((Up.refl w2).alloc (.cells #[cv] 24))
  obtain ⟨wA, hwA⟩ : ∃ W, W = w2.alloc (.cells #[cv] 24) := ⟨_, rfl⟩
  rw [← hwA] at hg hat hA
  have hu2 : Up wr wA := by rw [hwA]; exact u.alloc _
  have hwAs : w2.heap.size < wA.heap.size := by rw [hwA]; simp
  have hyA : wA.ownsRow wr.heap.size 3 1 cv c.length (Js.ints c) := by rw [hwA]; exact hy.alloc _
  have hyl : ∀ g', cv.ownBlock = some g' → wr.heap.size ≤ g' ∧ g' < w2.heap.size := fun g' e => own_lt hy e
  have hus := u.size
  have hbl := h.row.lt
  have hfr : Fr (fun b => nv.ownBlock = some b) wA w5 := Fr.of_grown hg
  have h5s := hfr.size
  have hNb : nv.ownBlock ≠ some bv := own_row_ne hA.ownN hA.row (by decide)
  have hLb : lv.ownBlock ≠ some bv := own_row_ne hA.ownL hA.row (by decide)
  have hNlt : ∀ b, nv.ownBlock = some b → b < wr.heap.size := fun b e => (own_lt h.ownN e).2
  have hLlt : ∀ b, lv.ownBlock = some b → b < wr.heap.size := fun b e => (own_lt h.ownL e).2
  have hLN : ∀ b, lv.ownBlock = some b → ¬ nv.ownBlock = some b := fun b e => own_ne hA.ownL hA.ownN (by decide) e
  have row5 := hfr.row hA.row hNb
  have hgb : g ≠ bv := fun e => own_row_ne hown row5 (by decide) (by rw [e]; rfl)
  have gold : ∀ b, b < wA.heap.size → nv.ownBlock ≠ some b → b ≠ g := fun b hb hn e => by
    rcases hat with h1 | h1
    · exact hn (by rw [e]; exact h1)
    · omega
  have heap6 : ∀ b, b < wA.heap.size → b ≠ bv → nv.ownBlock ≠ some b → (w5.setCell ⟨bv, 3, none⟩ (.slice (some ⟨g, 0, none⟩) (ys.length + 1) cap)).heap[b]? = wA.heap[b]? := fun b hb hb1 hb2 => (Below.heap_setCell _ _ _ _ hb1).trans (hfr.block b hb hb2)
  have hs6 : (w5.setCell ⟨bv, 3, none⟩ (.slice (some ⟨g, 0, none⟩) (ys.length + 1) cap)).heap.size = w5.heap.size := by simp
  have he : ∀ b, KK w wA bv nv lv b → (w5.setCell ⟨bv, 3, none⟩ (.slice (some ⟨g, 0, none⟩) (ys.length + 1) cap)).heap[b]? = wA.heap[b]? := fun b hb => heap6 b hb.2.1 hb.2.2.1 hb.2.2.2.1
  have hk : ∀ b, KK w wA bv nv lv b → KK w (w5.setCell ⟨bv, 3, none⟩ (.slice (some ⟨g, 0, none⟩) (ys.length + 1) cap)) bv (.slice (some ⟨g, 0, none⟩) (ys.length + 1) cap) lv b := fun b hb => ⟨hb.1, by rw [hs6]; have := hb.2.1; omega, hb.2.2.1, fun e => gold b hb.2.1 hb.2.2.2.1 (Option.some.inj e).symm, hb.2.2.2.2⟩
  refine ⟨row5.set 3 _, h.bv0, (up_grown (hA.up) hg fun k hk => (own_lt h.ownN hk).1).setCell (p := ⟨bv, 3, none⟩) h.bv0 _, ?_, ?_, ?_, Js.Ok.of he hk hA.kids, fun p hp => by rw [hs6]; have := hA.pls p hp; omega⟩
  · rw [List.map_append, List.length_append]
    exact own_set (a := ⟨bv, 3, none⟩) hown (fun e => hgb (Option.some.inj e)) _
  · exact own_set (own_fr hA.ownL hfr hLN) (fun e => hLb e) _
  · intro y hy'
    rcases List.mem_append.1 hy' with hy' | hy'
    · exact (hA.oks y hy').of he hk
    · simp at hy'
      subst hy'
      have hb : ∀ g', cv.ownBlock = some g' → w.heap.size ≤ g' ∧ g' < wA.heap.size ∧ g' ≠ bv ∧ nv.ownBlock ≠ some g' ∧ lv.ownBlock ≠ some g' := fun g' e => by
        have h1 := hyl g' e
        have h2 := h.up.size
        exact ⟨by omega, by omega, by omega, fun e2 => by have := hNlt _ e2; omega, fun e2 => by have := hLlt _ e2; omega⟩
      exact ⟨own_base (own_of_block hyA fun g' e => he g' (hb g' e)) (Nat.zero_le _), fun g' e => hk g' (hb g' e), hc⟩

theorem MI.kid {w wr w2 w5 : World} {bv : Nat} {kind : Int} {nv lv : Value} {dp : Nat} {acc : List (List Int × Js.V)} {ys : List Js.NC} {ps : List Nat} {n : List Int} {v : Js.V} {p : Nat} {g cap : Nat} (h : MI w wr bv kind nv lv dp acc ys ps) (u : Up wr w2) (hv : Js.Ok (fun b => wr.heap.size ≤ b ∧ b < w2.heap.size) w2 v [p]) (hp : wr.heap.size ≤ p ∧ p < w2.heap.size) (hi : Js.isVal v = true)
    (hown : w5.ownsRow w.heap.size 105 1 (.slice (some ⟨g, 0, none⟩) (ps.length + 1) cap) (ps.length + 1) (ps.map Js.ptr ++ [Js.ptr p])) (hg : (w2.alloc (.cells #[Js.ptr p] 105)).grownBy w5 lv.ownBlock) (hat : lv.ownBlock = some g ∨ g = (w2.alloc (.cells #[Js.ptr p] 105)).heap.size) (hlt : g < w5.heap.size) :
    MI w (w5.setCell ⟨bv, 4, none⟩ (.slice (some ⟨g, 0, none⟩) (ps.length + 1) cap)) bv kind nv (.slice (some ⟨g, 0, none⟩) (ps.length + 1) cap) dp (acc ++ [(n, v)]) ys (ps ++ [p]) := by
  have h2 := h.ups u
  have hA := h2.ups ((Up.refl w2).alloc (.cells #[Js.ptr p] 105))
  obtain ⟨wA, hwA⟩ : ∃ W, W = w2.alloc (.cells #[Js.ptr p] 105) := ⟨_, rfl⟩
  rw [← hwA] at hg hat hA
  have hwAs : w2.heap.size < wA.heap.size := by rw [hwA]; simp
  have hvA : Js.Ok (fun b => wr.heap.size ≤ b ∧ b < w2.heap.size) wA v [p] := by rw [hwA]; exact hv.up ((Up.refl w2).alloc _) fun b hb => hb.2
  have hus := u.size
  have hbl := h.row.lt
  have hfr : Fr (fun b => lv.ownBlock = some b) wA w5 := Fr.of_grown hg
  have h5s := hfr.size
  have hNb : nv.ownBlock ≠ some bv := own_row_ne hA.ownN hA.row (by decide)
  have hLb : lv.ownBlock ≠ some bv := own_row_ne hA.ownL hA.row (by decide)
  have hNlt : ∀ b, nv.ownBlock = some b → b < wr.heap.size := fun b e => (own_lt h.ownN e).2
  have hLlt : ∀ b, lv.ownBlock = some b → b < wr.heap.size := fun b e => (own_lt h.ownL e).2
  have hNL : ∀ b, nv.ownBlock = some b → ¬ lv.ownBlock = some b := fun b e => own_ne hA.ownN hA.ownL (by decide) e
  have row5 := hfr.row hA.row hLb
  have hgb : g ≠ bv := fun e => own_row_ne hown row5 (by decide) (by rw [e]; rfl)
  have gold : ∀ b, b < wA.heap.size → lv.ownBlock ≠ some b → b ≠ g := fun b hb hn e => by
    rcases hat with h1 | h1
    · exact hn (by rw [e]; exact h1)
    · omega
  have heap6 : ∀ b, b < wA.heap.size → b ≠ bv → lv.ownBlock ≠ some b → (w5.setCell ⟨bv, 4, none⟩ (.slice (some ⟨g, 0, none⟩) (ps.length + 1) cap)).heap[b]? = wA.heap[b]? := fun b hb hb1 hb2 => (Below.heap_setCell _ _ _ _ hb1).trans (hfr.block b hb hb2)
  have hs6 : (w5.setCell ⟨bv, 4, none⟩ (.slice (some ⟨g, 0, none⟩) (ps.length + 1) cap)).heap.size = w5.heap.size := by simp
  have he : ∀ b, KK w wA bv nv lv b → (w5.setCell ⟨bv, 4, none⟩ (.slice (some ⟨g, 0, none⟩) (ps.length + 1) cap)).heap[b]? = wA.heap[b]? := fun b hb => heap6 b hb.2.1 hb.2.2.1 hb.2.2.2.2
  have hk : ∀ b, KK w wA bv nv lv b → KK w (w5.setCell ⟨bv, 4, none⟩ (.slice (some ⟨g, 0, none⟩) (ps.length + 1) cap)) bv nv (.slice (some ⟨g, 0, none⟩) (ps.length + 1) cap) b := fun b hb => ⟨hb.1, by rw [hs6]; have := hb.2.1; omega, hb.2.2.1, hb.2.2.2.1, fun e => gold b hb.2.1 hb.2.2.2.2 (Option.some.inj e).symm⟩
  have hin : ∀ b, (wr.heap.size ≤ b ∧ b < w2.heap.size) → KK w wA bv nv lv b := fun b hb => by
    have h2 := h.up.size
    exact ⟨by omega, by omega, by omega, fun e2 => by have := hNlt _ e2; omega, fun e2 => by have := hLlt _ e2; omega⟩
  have hv6 := Js.Ok.of (fun b hb => he b (hin b hb)) (fun b hb => hk b (hin b hb)) hvA
  refine ⟨row5.set 4 _, h.bv0, (up_grown (hA.up) hg fun k hk => (own_lt h.ownL hk).1).setCell (p := ⟨bv, 4, none⟩) h.bv0 _, ?_, ?_, fun y hy => (hA.oks y hy).of he hk, Js.Ok.snoc hv6 hi (Js.Ok.of he hk hA.kids) (fun q hq => by have := h.pls q hq; omega), fun q hq => ?_⟩
  · exact own_set (own_fr hA.ownN hfr hNL) (fun e => hNb e) _
  · rw [List.map_append, List.length_append]
    exact own_set (a := ⟨bv, 4, none⟩) hown (fun e => hgb (Option.some.inj e)) _
  · rw [hs6]
    rcases List.mem_append.1 hq with hq | hq
    · have := hA.pls q hq; omega
    · simp at hq; omega

theorem MI.deep {w wr : World} {bv : Nat} {kind : Int} {nv lv : Value} {dp : Nat} {acc : List (List Int × Js.V)} {ys : List Js.NC} {ps : List Nat} (h : MI w wr bv kind nv lv dp acc ys ps) (d : Nat) : MI w (wr.setCell ⟨bv, 5, none⟩ (.int .i64 d)) bv kind nv lv d acc ys ps := by
  have hNb : nv.ownBlock ≠ some bv := own_row_ne h.ownN h.row (by decide)
  have hLb : lv.ownBlock ≠ some bv := own_row_ne h.ownL h.row (by decide)
  have hs6 : (wr.setCell ⟨bv, 5, none⟩ (.int .i64 d)).heap.size = wr.heap.size := by simp
  have he : ∀ b, KK w wr bv nv lv b → (wr.setCell ⟨bv, 5, none⟩ (.int .i64 d)).heap[b]? = wr.heap[b]? := fun b hb => Below.heap_setCell _ _ _ _ hb.2.2.1
  have hk : ∀ b, KK w wr bv nv lv b → KK w (wr.setCell ⟨bv, 5, none⟩ (.int .i64 d)) bv nv lv b := fun b hb => ⟨hb.1, by rw [hs6]; exact hb.2.1, hb.2.2⟩
  exact ⟨h.row.set 5 _, h.bv0, h.up.setCell (p := ⟨bv, 5, none⟩) h.bv0 _, own_set h.ownN (fun e => hNb e) _, own_set h.ownL (fun e => hLb e) _, fun y hy => (h.oks y hy).of he hk, Js.Ok.of he hk h.kids, fun p hp => by rw [hs6]; exact h.pls p hp⟩

/-- All of it, done. -/
theorem MI.lst {w wr : World} {bv : Nat} {lv : Value} {acc : List (List Int × Js.V)} {ps : List Nat} (h : MI w wr bv 3 Js.nilS lv ((Js.ofM acc).deep + 1) acc [] ps) (hl : ps.length ≤ 6000) : Js.Ok (fun b => w.heap.size ≤ b ∧ b < wr.heap.size) wr (.lst (Js.ofM acc)) [bv] := by
  have hk : ∀ b, KK w wr bv Js.nilS lv b → w.heap.size ≤ b ∧ b < wr.heap.size := fun b hb => ⟨hb.1, hb.2.1⟩
  exact ⟨bv, lv, ps, rfl, ⟨h.bv0, h.row.lt⟩, h.row, ⟨World.ownsRow_nil _ _ _ _, own_base h.ownL (Nat.zero_le _), (fun g (hg : (Value.slice none 0 0).ownBlock = some g) => nomatch hg), fun g hg => own_lt h.ownL hg, (fun y hy => nomatch hy), hl, Nat.zero_le _⟩, Js.Ok.of (fun _ _ => rfl) hk h.kids, acc, rfl⟩
theorem MI.obj {w wr : World} {bv : Nat} {nv lv : Value} {acc : List (List Int × Js.V)} {ys : List Js.NC} {ps : List Nat} (h : MI w wr bv 4 nv lv ((Js.ofM acc).deep + 1) acc ys ps) (hl : ps.length ≤ 6000) (hn : ys.map Js.NC.c = acc.map Prod.fst) : Js.Ok (fun b => w.heap.size ≤ b ∧ b < wr.heap.size) wr (.obj (Js.ofM acc)) [bv] := by
  have hk : ∀ b, KK w wr bv nv lv b → w.heap.size ≤ b ∧ b < wr.heap.size := fun b hb => ⟨hb.1, hb.2.1⟩
  have hl2 : ys.length ≤ 6000 := by
    have h1 := congrArg List.length hn
    simp at h1
    rw [h1, ← (Js.Ok.kids h.kids).1]
    exact hl
  exact ⟨bv, nv, lv, ys, ps, rfl, ⟨h.bv0, h.row.lt⟩, h.row, ⟨own_base h.ownN (Nat.zero_le _), own_base h.ownL (Nat.zero_le _), fun g hg => own_lt h.ownN hg, fun g hg => own_lt h.ownL hg, fun y hy => (h.oks y hy).of (fun _ _ => rfl) hk, hl, hl2⟩, by rw [Js.names_ofM]; exact hn, Js.Ok.of (fun _ _ => rfl) hk h.kids, acc, rfl⟩
theorem MI.start (w : World) (kind : Int) : MI w (w.alloc (.cells #[.int .i64 kind, .string (bs []), Js.nilS, Js.nilS, Js.nilS, .int .i64 1] 111)) w.heap.size kind Js.nilS Js.nilS 1 [] [] [] :=
  ⟨VRow.new w (Js.vcells kind [] Js.nilS Js.nilS Js.nilS 1) _, Nat.le_refl _, (Up.refl w).alloc _, World.ownsRow_nil _ _ _ _, World.ownsRow_nil _ _ _ _, by simp, rfl, by simp⟩
end Go.Proofs.YtcclepohmhdpbaaGreatDoor

/- THE DOCUMENT's JSON: lists. -/
namespace Go.Proofs.YtcclepohmhdpbaaGreatDoor
set_option linter.all false
open Go.RowKit Go.Deep

def DRdPost (P : Option (Js.V × List UInt8)) (l : List UInt8) (w : World) (e : Ending) (w' : World) : Prop :=
  ∃ (pv : Value) (t : List UInt8), e = .returned (.tuple #[pv, .string (bs t)]) ∧ Up w w' ∧ t.length ≤ l.length ∧ ((P = none ∧ pv = .pointer none) ∨ (∃ v b, P = some (v, t) ∧ pv = .pointer (some ⟨b, 0, none⟩) ∧ (w.heap.size ≤ b ∧ b < w'.heap.size) ∧ Js.Ok (fun b => w.heap.size ≤ b ∧ b < w'.heap.size) w' v [b]))
def DReadAt (n : Nat) : Prop := ∀ (l : List UInt8), l.length ≤ n → l.length ≤ 6000 → ∀ w, Calls Tryz.prog 76 #[.string (bs l)] w (DRdPost (Js.rd n l) l w)

theorem Js.rd_val {d : Nat} {l : List UInt8} {v : Js.V} {t : List UInt8} (h : Js.rd d l = some (v, t)) : Js.isVal v = true := by
  rw [Js.rd_eq] at h
  have hl : ∀ (b e : UInt8) (nm : Bool) (g : Js.V → Js.V), (∀ m, Js.isVal (g m) = true) → Js.lstD b e nm g d l = some (v, t) → Js.isVal v = true := by
    intro b e nm g hg h
    cases d with
    | zero => cases h
    | succ d =>
      simp only [Js.lstD, Option.map_eq_some_iff] at h
      obtain ⟨x, -, h⟩ := h
      cases h
      exact hg _
  split at h
  · exact hl _ _ _ _ (fun m => rfl) h
  · split at h
    · exact hl _ _ _ _ (fun m => rfl) h
    · unfold Js.leaf at h
      split at h
      · cases h; rfl
      · split at h
        · cases h; rfl
        · split at h
          · cases h; rfl
          · split at h
            · simp only [Option.map_eq_some_iff] at h
              obtain ⟨x, -, h⟩ := h
              cases h; rfl
            · split at h
              · cases h
              · cases h; rfl
theorem Js.rd_deep {d : Nat} {l : List UInt8} {v : Js.V} {t : List UInt8} (h : Js.rd d l = some (v, t)) : v.deep ≤ d := by
  have := Js.rd_keep d d (Nat.le_refl _) l
  rw [h] at this
  simp only [Option.bind_some] at this
  split at this
  · rename_i h2; simpa using h2
  · cases this

set_option maxRecDepth 100000 in
set_option maxHeartbeats 16000000 in
theorem many_list (n : Nat) (hn : n ≤ 6001) (IH : DReadAt n) (l : List UInt8) (h91 : Tx.at_ l 0 = 91) (hbare : Tx.bare l = l) (hln : l.length ≤ n + 1) (hl : l.length ≤ 6000) (w : World) :
    Calls Tryz.prog 117 #[.string (bs l), .int .i64 3, .int .u8 93] w (DRdPost (Js.lstD 91 93 false .lst (n + 1) l) l w) := by
  replace IH := hide IH
  obtain ⟨e0, -, e2, -, -, -⟩ := bs_tells l
  have hpos : 0 < l.length := Tx.lt_of_at (by omega)
  obtain ⟨l1, hl1⟩ : ∃ t, t = l.drop 1 := ⟨_, rfl⟩
  have hd1 : (bs l).extract 1 l.length = bs l1 := by rw [hl1]; exact e2 1
  have hlen1 : l1.length + 1 = l.length := by rw [hl1, List.length_drop]; omega
  have HB := hide (fun w => bare_any l1 w)
  obtain ⟨s, hs⟩ : ∃ s, s = Tx.bare l1 := ⟨_, rfl⟩
  rw [← hs] at HB
  have hsl : s.length ≤ l1.length := by rw [hs]; exact Tx.bare_le l1
  have HL0 : Hid (Js.list0 91 93 (Js.mem false (Js.rd n)) l = if Tx.pre [93] s = true then some ([], Tx.aft [93] s) else Js.items0 93 (Js.mem false (Js.rd n)) (l.length + 1) s) := by
    show _ = _
    have hp : Tx.pre [91] (Tx.bare l) = true := (Js.pre1 91 _).2 (by rw [hbare]; exact h91)
    unfold Js.list0
    rw [if_pos hp, Tx.aft_t hp, hbare, hs, hl1]
    rfl
  have HP : Hid (Js.lstD 91 93 false .lst (n + 1) l = (Js.list0 91 93 (Js.mem false (Js.rd n)) l).map fun x => (Js.V.lst (Js.ofM x.1), x.2)) := rfl
  obtain ⟨wA, hwA⟩ : ∃ W, W = w.alloc (.cells #[.int .i64 3, .string ⟨#[]⟩, .slice none 0 0, .slice none 0 0, .slice none 0 0, .int .i64 1] 111) := ⟨_, rfl⟩
  have HM : Hid (MI w wA w.heap.size 3 Js.nilS Js.nilS 1 [] [] []) := by rw [hwA]; exact MI.start w 3
  have HWA := hide hwA
  clear e2 hl1 hs hwA h91 hbare
  by_cases hE : Tx.pre [93] s = true
  · have HR : Hid (Js.lstD 91 93 false .lst (n + 1) l = some (.lst .nil, s.drop 1)) := by
      show _ = _
      rw [HP.out, HL0.out, if_pos hE, Tx.aft_t hE]; rfl
    have hat : Tx.at_ s 0 = 93 := (Js.pre1 93 s).1 hE
    have hps : 0 < s.length := Tx.lt_of_at (by omega)
    have hne : ¬ s = [] := fun e => by rw [e] at hps; simp at hps
    have hemp : s.isEmpty = false := by cases s <;> simp_all
    obtain ⟨e0', e1', e2', -, e4', -⟩ := bs_tells s
    obtain ⟨s1, hs1⟩ : ∃ t, t = s.drop 1 := ⟨_, rfl⟩
    have hds : (bs s).extract 1 s.length = bs s1 := by rw [hs1]; exact e2' 1
    have hls1 : s1.length ≤ s.length := by rw [hs1]; simp
    rw [← hs1] at HR
    clear hE HL0 HP e2' hs1
    go_enter Tryz.func117, Tryz.ntmps117
    go_wp2_with (go_at_call 70; refine (HB.out _).mono ?_; rintro e w1 ⟨rfl, hw⟩; replace hw := hw.symm; subst hw)
    go_quiet (fail)
    go_wp2
    go_ret2
    have HM2 := (HM.out.ups ((Up.refl _).drewN nq))
    rw [HWA.out] at HM2
    exact ⟨_, s1, rfl, HM2.up, by omega, .inr ⟨_, w.heap.size, HR.out, rfl, ⟨Nat.le_refl _, HM2.row.lt⟩, MI.lst (acc := []) (ps := []) HM2 (Nat.zero_le _)⟩⟩
  · have HT0 : Hid (Js.list0 91 93 (Js.mem false (Js.rd n)) l = Js.pre0 [] (Js.items0 93 (Js.mem false (Js.rd n)) (l.length + 1) s)) := by
      show _ = _
      rw [HL0.out, if_neg hE, Js.pre0_nil]
    obtain ⟨T, hT⟩ : ∃ T, T = Js.list0 91 93 (Js.mem false (Js.rd n)) l := ⟨_, rfl⟩
    rw [← hT] at HT0 HP
    have hat : ∀ x, Tx.at_ s 0 = x → x ≠ 93 := fun x hx e => hE ((Js.pre1 93 s).2 (by rw [hx, e]; rfl))
    obtain ⟨e0', e1', -, -, e4', -⟩ := bs_tells s
    clear hE HL0 hT
    by_cases hs0 : s = []
    · subst hs0
      have HE : Hid (T = none) := by
        have h1 : Js.rd n [] = none := by
          cases h : Js.rd n [] with
          | none => rfl
          | some x =>
            have := Js.rd_lt n [] x.1 x.2 h
            simp at this
        show _ = _
        rw [HT0.out]
        simp [Js.items0, Js.mem, h1, Js.pre0]
      clear hat
      go_enter Tryz.func117, Tryz.ntmps117
      go_wp2_with (go_at_call 70; refine (HB.out _).mono ?_; rintro e w1 ⟨rfl, hw⟩; replace hw := hw.symm; subst hw)
      rw [← HWA.out]
      go_loopw [0] (fun sv wr => sv = .string (bs []) ∧ wr = wA) (fun _ _ => 0)
      case atStart => exact ⟨rfl, rfl⟩
      case round =>
        obtain ⟨rfl, rfl⟩ := hrel
        go_wp2_with fail
        refine (IH.out [] (by simp) (by simp) _).mono ?_
        rintro e w4 ⟨pv, t4, rfl, u4, ht4, hcase⟩
        rcases hcase with ⟨hnone, rfl⟩ | ⟨v, b, hsome, rfl, hb, hok⟩
        · have HU : Hid (Up w w4) := HM.out.up.trans u4
          clear hnone u4
          go_wp2
          go_ret2
          exact ⟨_, [], rfl, HU.out, by simp, .inl ⟨by rw [HP.out, HE.out]; rfl, rfl⟩⟩
        · have := Js.rd_lt n [] _ _ hsome
          simp at this
    have hps : 0 < s.length := List.length_pos_iff.2 hs0
    have hemp : s.isEmpty = false := by cases s <;> simp_all
    have hb93 : (Tx.at_ s 0 == 93) = false := beq_eq_false_iff_ne.2 (hat _ rfl)
    clear hat
    go_enter Tryz.func117, Tryz.ntmps117
    go_wp2_with (go_at_call 70; refine (HB.out _).mono ?_; rintro e w1 ⟨rfl, hw⟩; replace hw := hw.symm; subst hw)
    rw [← HWA.out]
    go_loopw [0] (fun sv wr => ∃ (k dp : Nat) (acc : List (List Int × Js.V)) (t : List UInt8) (lv : Value) (ps : List Nat), sv = .string (bs t) ∧ Hid (MI w wr w.heap.size 3 Js.nilS lv dp acc [] ps) ∧ t.length ≤ k ∧ t.length + 1 ≤ l.length ∧ acc.length + t.length ≤ 6000 ∧ dp ≤ 6002 ∧ Hid (dp = (Js.ofM acc).deep + 1) ∧ Hid (T = Js.pre0 acc (Js.items0 93 (Js.mem false (Js.rd n)) (k + 1) t))) (fun sv _ => lenOf sv)
    case atStart => exact ⟨l.length, 1, [], _, Js.nilS, [], rfl, HM, by omega, by omega, by simp; omega, by omega, rfl, HT0⟩
    case round =>
      obtain ⟨wo, hw⟩ : ∃ x, x = wr := ⟨_, rfl⟩
      subst hw
      obtain ⟨k, dp, acc, t, lv, ps, rfl, HI, hk, htl, hat6, hdp, HDP, HT⟩ := hrel
      obtain ⟨la, ln, lc, rfl⟩ : ∃ a n c, lv = .slice a n c := own_shape HI.out.ownL
      obtain rfl : ln = ps.length := by obtain ⟨a, c, e⟩ := own_len HI.out.ownL; cases e; rfl
      have HPL : Hid (ps.length = acc.length) := (Js.Ok.kids HI.out.kids).1
      have hpl6 : ps.length ≤ 6000 := by rw [HPL.out]; omega
      go_wp2_with fail
      refine (IH.out t (by omega) (by omega) _).mono ?_
      rintro e w4 ⟨pv, t4, rfl, u4, ht4, hcase⟩
      rcases hcase with ⟨hnone, rfl⟩ | ⟨v, b, hsome, rfl, hb, hok⟩
      · have HE : Hid (T = none) := by
          have := (Js.go_on0 (b := true) (a := (([] : List Int), Js.V.nil)) (t := []) (bad := false) HT.out (by simp [Js.mem, hnone])).2 rfl
          simpa [Hid] using this
        have HU : Hid (Up w w4) := HI.out.up.trans u4
        clear hnone u4 HT
        go_wp2
        go_ret2
        exact ⟨_, t, rfl, HU.out, by omega, .inl ⟨by rw [HP.out, HE.out]; rfl, rfl⟩⟩
      · obtain ⟨hg1, hg2⟩ := Js.go_on0 (b := false) (a := (([] : List Int), v)) (t := t4) (bad := false) HT.out (by simp [Js.mem, hsome])
        have hlt4 : t4.length + 1 ≤ t.length := Js.rd_lt _ _ _ _ hsome
        obtain ⟨kd, sx, xcv, xnv, xlv, hrowx⟩ := (hok.one (Js.rd_val hsome)).2
        obtain ⟨dv, hdv⟩ : ∃ d, d = v.deep := ⟨_, rfl⟩
        have hdv6 : dv ≤ 6001 := by rw [hdv]; have := Js.rd_deep hsome; omega
        rw [← hdv] at hrowx
        have HDV := hide hdv
        have HIV := hide (Js.rd_val hsome)
        have HB4 := hide (bare_any t4)
        obtain ⟨s4, hs4⟩ : ∃ x, x = Tx.bare t4 := ⟨_, rfl⟩
        have hls4 : s4.length ≤ t4.length := by rw [hs4]; exact Tx.bare_le t4
        rw [← hs4] at hg1 hg2
        unfold Hid at HB4
        rw [← hs4] at HB4
        replace HB4 := hide HB4
        replace hg1 := hide hg1
        replace hg2 := hide hg2
        have h4 := HI.out.ups u4
        have c4 := h4.row.cell (i := 4) rfl
        have HOA := hide (h4.ownL.alloc (.cells #[.pointer (some ⟨b, 0, none⟩)] 105))
        have hrb : Hid (ps.length ≤ 1073741824) := by show _ ≤ _; omega
        have hsz4 := hide h4.up.size
        have HOK := hide hok
        have HBB := hide hb
        have HRX := hide hrowx
        have H4 := hide h4
        have HU4 := hide u4
        have hbne : b ≠ w.heap.size := by
          have h1 := HI.out.row.lt
          omega
        have hbne2 : w.heap.size ≠ b := fun e => hbne e.symm
        have HLB : Hid ((Value.slice la ps.length lc).ownBlock ≠ some b) := fun e => by
          have h1 := (own_lt HI.out.ownL e).2
          omega
        clear hsome hdv hs4 HT hok h4 u4 hrowx
        go_wp2_with (at_builtin; refine wpList_app el_vals rfl (.tmp 82) (.tmp 84) rfl w.heap.size _ _ _ (by rfl) HOA.out w4.heap.size [.pointer (some ⟨b, 0, none⟩)] (by rfl) rfl (heap_alloc_new w4 _) (by intro u hu; simp at hu; subst hu; rfl) hrb.out (by simp; have := hsz4.out; omega) ?_; intro g cap w5 hown5 hg5 hat5 hlt5; have H6 := hide (MI.kid (n := []) HI.out HU4.out HOK.out HBB.out HIV.out hown5 hg5 hat5 hlt5); have row5 := (Fr.of_grown hg5).row (H4.out.ups ((Up.refl w4).alloc (.cells #[.pointer (some ⟨b, 0, none⟩)] 105))).row (own_row_ne (H4.out.ups ((Up.refl w4).alloc (.cells #[.pointer (some ⟨b, 0, none⟩)] 105))).ownL (H4.out.ups ((Up.refl w4).alloc (.cells #[.pointer (some ⟨b, 0, none⟩)] 105))).row (by decide)); have rc4 := row5.cell (i := 4) rfl; have rf4 := row5.frozen 4; have rc5 := row5.cell (i := 5) rfl; have rf5 := row5.frozen 5; have rx5 := ((HRX.out.alloc (.cells #[.pointer (some ⟨b, 0, none⟩)] 105)).grown hg5 HLB.out).cell (i := 5) rfl; clear hown5 hg5 hat5 hlt5 row5)
        have HDS : Hid ((Js.ofM (acc ++ [(([] : List Int), v)])).deep + 1 = if dp < dv + 1 then dv + 1 else dp) := by
          show _ = _
          rw [Js.deep_snoc, HDP.out, HDV.out]
          have h1 := Nat.le_max_left (Js.ofM acc).deep v.deep
          have h2 := Nat.le_max_right (Js.ofM acc).deep v.deep
          have h3 : Nat.max (Js.ofM acc).deep v.deep = (Js.ofM acc).deep ∨ Nat.max (Js.ofM acc).deep v.deep = v.deep := by
            rcases Nat.le_total (Js.ofM acc).deep v.deep with h | h
            · exact .inr (Nat.max_eq_right h)
            · exact .inl (Nat.max_eq_left h)
          split <;> (rcases h3 with h3 | h3 <;> simp only [h3] at * <;> omega)
        obtain ⟨e40, e41, e42, -, e44, -⟩ := bs_tells s4
        by_cases hgt : dp < dv + 1
        · rw [if_pos hgt] at HDS
          have hgi : (dp : Int) < (dv : Int) + 1 := by omega
          clear hgt
          go_quiet (fail)
          go_wp2_with fail
          refine (HB4.out _).mono ?_
          rintro e w7 ⟨rfl, hw7⟩
          have H7 : Hid (MI w w7 w.heap.size 3 Js.nilS (.slice (some ⟨g, 0, none⟩) (ps.length + 1) cap) (dv + 1) (acc ++ [(([] : List Int), v)]) [] (ps ++ [b])) := by
            rw [hw7]
            exact (H6.out.ups ((Up.refl _).drewN nq)).deep (dv + 1)
          obtain ⟨D7, hD7e⟩ : ∃ D, D = dv + 1 := ⟨_, rfl⟩
          have hD7 : D7 ≤ 6002 := by omega
          rw [← hD7e] at H7 HDS
          have HD7 : Hid (D7 = (Js.ofM (acc ++ [(([] : List Int), v)])).deep + 1) := HDS.out.symm
          clear hw7 hD7e rc4 rf4 rc5 rf5 rx5 hgi
          have hw7s : lenOf (.string (bs t)) = t.length := by simp [lenOf, bs_size]
          by_cases h4n : s4 = []
          · subst h4n
            have HE : Hid (T = none) := hg2.out rfl
            clear e42
            go_wp2
            go_ret2
            exact ⟨_, [], rfl, H7.out.up, by simp, .inl ⟨by rw [HP.out, HE.out]; rfl, rfl⟩⟩
          · have hps4 : 0 < s4.length := List.length_pos_iff.2 h4n
            have hemp4 : s4.isEmpty = false := by cases s4 <;> simp_all
            obtain ⟨y, hy⟩ : ∃ y, y = Tx.at_ s4 0 := ⟨_, rfl⟩
            have hy1 : Tx.at_ s4 0 = y := hy.symm
            have HY := hide hy1
            obtain ⟨s5, hs5⟩ : ∃ x, x = s4.drop 1 := ⟨_, rfl⟩
            have hd5 : (bs s4).extract 1 s4.length = bs s5 := by rw [hs5]; exact e42 1
            have hl5 : s5.length + 1 = s4.length := by rw [hs5, List.length_drop]; omega
            have HS5 := hide hs5
            clear hy hs5 e42
            by_cases h44 : y = 44
            · have hp : Tx.pre [44] s4 = true := (Js.pre1 44 s4).2 (by rw [HY.out, h44]; rfl)
              have HG : Hid (T = Js.pre0 (acc ++ [(([] : List Int), v)]) (Js.items0 93 (Js.mem false (Js.rd n)) k s5)) := by
                have := hg1.out (by rw [hp]; rfl)
                rw [Tx.aft_t hp] at this
                rw [HS5.out]
                exact this
              subst h44
              clear hp
              go_wp2
              go_roundw
              case rel =>
                refine ⟨k - 1, D7, acc ++ [(([] : List Int), v)], s5, _, ps ++ [b], by simp [hd5], H7, by omega, by omega, by simp; omega, hD7, HD7, ?_⟩
                show _ = _
                rw [show k - 1 + 1 = k by omega]
                exact HG.out
              case measure => rw [hw7s]; simp [lenOf, hd5, bs_size]; omega
            · have b44 : (y != 44) = true := bne_iff_ne.2 h44
              have hp44 : Tx.pre [44] s4 = false := Js.pre1f (by rw [HY.out]; exact h44)
              have HG := hide (hg2.out (by rw [hp44]; rfl))
              clear h44 hp44
              by_cases h93 : y = 93
              · have hp : Tx.pre [93] s4 = true := (Js.pre1 93 s4).2 (by rw [HY.out, h93]; rfl)
                have HE : Hid (T = some (acc ++ [(([] : List Int), v)], s5)) := by
                  have := HG.out
                  rw [hp, Tx.aft_t hp] at this
                  rw [HS5.out]
                  exact this
                subst h93
                clear hp
                go_wp2
                go_ret2
                exact ⟨_, s5, rfl, H7.out.up, by omega, .inr ⟨.lst (Js.ofM (acc ++ [(([] : List Int), v)])), w.heap.size, by rw [HP.out, HE.out]; rfl, rfl, ⟨Nat.le_refl _, H7.out.row.lt⟩, MI.lst (HD7.out ▸ H7.out) (by rw [List.length_append, HPL.out]; simp; omega)⟩⟩
              · have b93 : (y != 93) = true := bne_iff_ne.2 h93
                have hp : Tx.pre [93] s4 = false := Js.pre1f (by rw [HY.out]; exact h93)
                have HE : Hid (T = none) := by
                  have := HG.out
                  rw [hp] at this
                  exact this
                clear h93 hp
                go_wp2
                go_ret2
                exact ⟨_, s4, rfl, H7.out.up, by omega, .inl ⟨by rw [HP.out, HE.out]; rfl, rfl⟩⟩
        · rw [if_neg hgt] at HDS
          have hgi : ¬ (dp : Int) < (dv : Int) + 1 := by omega
          clear hgt
          go_quiet (fail)
          go_wp2_with fail
          refine (HB4.out _).mono ?_
          rintro e w7 ⟨rfl, hw7⟩
          have H7 : Hid (MI w w7 w.heap.size 3 Js.nilS (.slice (some ⟨g, 0, none⟩) (ps.length + 1) cap) dp (acc ++ [(([] : List Int), v)]) [] (ps ++ [b])) := by
            rw [hw7]
            exact H6.out.ups ((Up.refl _).drewN nq)
          obtain ⟨D7, hD7e⟩ : ∃ D, D = dp := ⟨_, rfl⟩
          have hD7 : D7 ≤ 6002 := by omega
          rw [← hD7e] at H7 HDS
          have HD7 : Hid (D7 = (Js.ofM (acc ++ [(([] : List Int), v)])).deep + 1) := HDS.out.symm
          clear hw7 hD7e rc4 rf4 rc5 rf5 rx5 hgi
          have hw7s : lenOf (.string (bs t)) = t.length := by simp [lenOf, bs_size]
          by_cases h4n : s4 = []
          · subst h4n
            have HE : Hid (T = none) := hg2.out rfl
            clear e42
            go_wp2
            go_ret2
            exact ⟨_, [], rfl, H7.out.up, by simp, .inl ⟨by rw [HP.out, HE.out]; rfl, rfl⟩⟩
          · have hps4 : 0 < s4.length := List.length_pos_iff.2 h4n
            have hemp4 : s4.isEmpty = false := by cases s4 <;> simp_all
            obtain ⟨y, hy⟩ : ∃ y, y = Tx.at_ s4 0 := ⟨_, rfl⟩
            have hy1 : Tx.at_ s4 0 = y := hy.symm
            have HY := hide hy1
            obtain ⟨s5, hs5⟩ : ∃ x, x = s4.drop 1 := ⟨_, rfl⟩
            have hd5 : (bs s4).extract 1 s4.length = bs s5 := by rw [hs5]; exact e42 1
            have hl5 : s5.length + 1 = s4.length := by rw [hs5, List.length_drop]; omega
            have HS5 := hide hs5
            clear hy hs5 e42
            by_cases h44 : y = 44
            · have hp : Tx.pre [44] s4 = true := (Js.pre1 44 s4).2 (by rw [HY.out, h44]; rfl)
              have HG : Hid (T = Js.pre0 (acc ++ [(([] : List Int), v)]) (Js.items0 93 (Js.mem false (Js.rd n)) k s5)) := by
                have := hg1.out (by rw [hp]; rfl)
                rw [Tx.aft_t hp] at this
                rw [HS5.out]
                exact this
              subst h44
              clear hp
              go_wp2
              go_roundw
              case rel =>
                refine ⟨k - 1, D7, acc ++ [(([] : List Int), v)], s5, _, ps ++ [b], by simp [hd5], H7, by omega, by omega, by simp; omega, hD7, HD7, ?_⟩
                show _ = _
                rw [show k - 1 + 1 = k by omega]
                exact HG.out
              case measure => rw [hw7s]; simp [lenOf, hd5, bs_size]; omega
            · have b44 : (y != 44) = true := bne_iff_ne.2 h44
              have hp44 : Tx.pre [44] s4 = false := Js.pre1f (by rw [HY.out]; exact h44)
              have HG := hide (hg2.out (by rw [hp44]; rfl))
              clear h44 hp44
              by_cases h93 : y = 93
              · have hp : Tx.pre [93] s4 = true := (Js.pre1 93 s4).2 (by rw [HY.out, h93]; rfl)
                have HE : Hid (T = some (acc ++ [(([] : List Int), v)], s5)) := by
                  have := HG.out
                  rw [hp, Tx.aft_t hp] at this
                  rw [HS5.out]
                  exact this
                subst h93
                clear hp
                go_wp2
                go_ret2
                exact ⟨_, s5, rfl, H7.out.up, by omega, .inr ⟨.lst (Js.ofM (acc ++ [(([] : List Int), v)])), w.heap.size, by rw [HP.out, HE.out]; rfl, rfl, ⟨Nat.le_refl _, H7.out.row.lt⟩, MI.lst (HD7.out ▸ H7.out) (by rw [List.length_append, HPL.out]; simp; omega)⟩⟩
              · have b93 : (y != 93) = true := bne_iff_ne.2 h93
                have hp : Tx.pre [93] s4 = false := Js.pre1f (by rw [HY.out]; exact h93)
                have HE : Hid (T = none) := by
                  have := HG.out
                  rw [hp] at this
                  exact this
                clear h93 hp
                go_wp2
                go_ret2
                exact ⟨_, s4, rfl, H7.out.up, by omega, .inl ⟨by rw [HP.out, HE.out]; rfl, rfl⟩⟩
end Go.Proofs.YtcclepohmhdpbaaGreatDoor
