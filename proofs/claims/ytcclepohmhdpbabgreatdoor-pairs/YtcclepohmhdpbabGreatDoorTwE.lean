/- THE PROGRAM's TEXTS, READ: polygon. -/
import Derived.Test.YtcclepohmhdpbabGreatDoorTwD
namespace Go.Proofs.YtcclepohmhdpbabGreatDoor
set_option linter.all false
open Go.RowKit Go.Deep

def pPlPost (l : List UInt8) (bad0 off0 : Bool) (rb : Nat) (w : World) (e : Ending) (w' : World) : Prop :=
  ∃ (x : L2) (l' : List UInt8) (bad off : Bool), e = .returned x.v ∧ x.ok w' ∧ RT w' rb l' bad off ∧ Fr (· = rb) w w' ∧ (if bad0 = true then none else Wt.poly l off0) = (if bad = true then none else some (x.pts, l', off)) ∧ l'.length ≤ 6000

set_option maxRecDepth 100000 in
set_option maxHeartbeats 4000000 in
theorem pPl_any (l : List UInt8) (bad0 off0 : Bool) (rb : Nat) (w : World) (hr : RT w rb l bad0 off0) (hl : l.length ≤ 6000) :
    Calls Tryz.prog 125 #[.pointer (some ⟨rb, 0, none⟩)] w (pPlPost l bad0 off0 rb w) := by
  have HR := hide hr
  clear hr
  go_enter Tryz.func125, Tryz.ntmps125
  go_wp2_with fail
  refine (need_any [40] l bad0 off0 rb _ HR.out hl (by simp)).mono ?_
  rintro e w1 ⟨rfl, h1, u1⟩
  have HT := hide (Wt.begin_ Wt.ring l off0 bad0)
  have hl1 : (Tx.aft [40] (Tx.bare l)).length ≤ l.length := Nat.le_trans (Tx.aft_le _ _) (Tx.bare_le l)
  obtain ⟨l1, hl1e⟩ : ∃ l1, l1 = Tx.aft [40] (Tx.bare l) := ⟨_, rfl⟩
  obtain ⟨b1, hb1e⟩ : ∃ b1, b1 = (bad0 || !Tx.pre [40] (Tx.bare l)) := ⟨_, rfl⟩
  rw [← hl1e, ← hb1e] at h1 HT
  have hl1b : (Tx.aft [40] (Tx.bare l)).length ≤ (Tx.bare l).length := Tx.aft_le _ _
  rw [← hl1e] at hl1 hl1b
  rw [← hb1e]
  have HQ := hide (P2.start h1 (Nat.le_trans hl1 hl))
  have HF1 := hide u1
  clear h1 u1 hl1e hb1e
  go_wp2_with fail
  go_loopw [3, 4] (fun v mv wr => ∃ (k : Nat) (r : List L1) (l' : List UInt8) (bad off more : Bool) (u : Value), u = v ∧ mv = .bool more ∧ Hid (P2 w1 wr rb u r l' bad off) ∧ Hid (more = true → bad = false ∧ l'.length ≤ k ∧ (if bad0 = true then none else Wt.poly l off0) = Bn.pre (r.map L1.r) (Wt.items Wt.ring (k + 1) l' off)) ∧ Hid (more = false → (if bad0 = true then none else Wt.poly l off0) = if bad = true then none else some ((r.map L1.r), l', off))) (fun v _ _ => 7000 - lenS v)
  case atStart =>
    refine ⟨(Tx.bare l).length, [], l1, b1, off0, !b1, _, rfl, rfl, HQ, fun e => ?_, fun e => ?_⟩
    · have e1 : b1 = false := by simpa using e
      refine ⟨e1, hl1b, ?_⟩
      exact HT.out.trans (by rw [e1]; rfl)
    · have e1 : b1 = true := by simpa using e
      exact HT.out.trans (by rw [e1]; rfl)
  case round =>
    obtain ⟨wo, hw⟩ : ∃ x, x = wr := ⟨_, rfl⟩
    subst hw
    obtain ⟨k, r, l2, bad, off, more, v, rfl, rfl, HI, H1, H2⟩ := hrel
    have hl2 := HI.out.rest
    obtain ⟨va, vn, vc, rfl⟩ : ∃ a n c, v = .slice a n c := own_shape HI.out.own
    obtain rfl : vn = r.length := by obtain ⟨a, c, e⟩ := own_len HI.out.own; cases e; rfl
    cases more
    · have HE := hide (H2.out rfl)
      clear H1 H2
      go_wp2
      go_ret
      exact ⟨⟨_, _⟩, l2, bad, off, rfl, ⟨own_base HI.out.own (Nat.zero_le _), HI.out.sub⟩, HI.out.sd, HF1.out.trans HI.out.fr, HE.out, hl2⟩
    · obtain ⟨hbf, hk, HT2⟩ := H1.out rfl
      subst hbf
      have hs6 := HI.out.sum rfl
      replace HT2 := hide HT2
      clear H1 H2
      go_wp2_with fail
      refine (pRg_any l2 false off rb _ HI.out.sd hl2).mono ?_
      rintro e w4 ⟨⟨xv, xr⟩, l4, b4, o4, rfl, hx, h4, u4, p4, hl4⟩
      obtain ⟨xa, xn, xc, rfl⟩ : ∃ a n c, xv = .slice a n c := own_shape hx
      have HP : Hid ((if false = true then none else Wt.ring l2 off) = (if b4 = true then none else some (xr, l4, o4)) ∧ (b4 = false → l4.length + 1 ≤ l2.length)) := by
        refine ⟨p4, fun e => ?_⟩
        rw [e] at p4
        exact (Wt.ring_lt p4).1
      have HF : Hid (Fr (· = rb) wo w4) := u4
      have HO : Hid (w4.ownsRow w1.heap.size 46 1 (.slice va r.length vc) r.length (r.map L1.v)) := own_fr HI.out.own HF.out fun g hg e => own_row_ne HI.out.own HI.out.sd (by decide) (e ▸ hg)
      have HOA := hide (HO.out.alloc (.cells #[.slice xa xn xc] 46))
      have HX := hide hx
      replace h4 := hide h4
      clear u4 p4 hx
      have hrb : Hid (r.length ≤ 1073741824) := by show _ ≤ _; omega
      have hsz := hide (HI.out.fr.trans HF.out).size
      have HLT : Hid (b4 = false → r.length + 1 + l4.length ≤ 6000) := fun e => by
        have h7 := HP.out.2 e
        omega
      go_wp2_with (first | (at_builtin; refine wpList_app el_rings rfl (.tmp 13) (.tmp 15) rfl w1.heap.size _ _ _ (by rfl) HOA.out _ [.slice xa xn xc] (by rfl) rfl (heap_alloc_new _ _) (by intro u hu; simp at hu; subst hu; rfl) hrb.out (by have := hsz.out; simp at this ⊢; omega) ?_; intro g cap w5 hown5 hg5 hat5 hlt5; have hq5 := hide (HI.out.step' (by omega) h4.out HF.out HX.out HLT.out hl4 hown5 hg5); clear hat5 hlt5 hown5 hg5) | (go_at_call 78; fail))
      have HG := Wt.go_on (bad := false) HT2.out HP.out.1
      obtain ⟨hg1, hg2⟩ := HG
      replace hg1 := hide hg1
      replace hg2 := hide hg2
      refine (next_any l4 b4 o4 rb _ hq5.out.sd hl4).mono ?_
      rintro e w6 ⟨l6, b6, rfl, h6, u6, hl6, hn1, hn2⟩
      obtain ⟨M, hM⟩ : ∃ M, M = (!b4 && Tx.pre [44] (Tx.bare l4)) := ⟨_, rfl⟩
      rw [← hM] at hn1 hn2 hg1 hg2 ⊢
      have hq6 := hide (hq5.out.sd' h6 u6 hl6 (more_bad hM (fun h => (hn2 h).1) ))
      replace hn1 := hide hn1
      replace hn2 := hide hn2
      have HMM := hide hM
      clear h6 u6 hM
      go_wp2
      go_roundw
      case rel =>
        refine ⟨k - 1, r ++ [(⟨.slice xa xn xc, xr⟩ : L1)], l6, b6, o4, M, _, rfl, rfl, hq6, fun e => ?_, fun e => ?_⟩
        · obtain ⟨a1, a2⟩ := hn1.out e
          have a3 := hg1.out e
          have a4 : b4 = false ∧ Tx.pre [44] (Tx.bare l4) = true := more_and (HMM.out.symm.trans e)
          have a5 := Wt.aft_len a4.2
          have a6 := Tx.bare_le l4
          have a7 := HP.out.2 a4.1
          rw [← a2] at a3 a5
          refine ⟨a1, by omega, ?_⟩
          rw [show k - 1 + 1 = k by omega, List.map_append]
          exact a3
        · obtain ⟨a1, a2⟩ := hn2.out e
          have a3 := hg2.out e
          rw [← a1] at a3
          rw [a3, List.map_append]
          cases b6
          · first
            | (rw [a2 rfl]; done)
            | (rw [a2 rfl]; rfl)
          · rfl
      case measure => simp [lenS]; omega
end Go.Proofs.YtcclepohmhdpbabGreatDoor
