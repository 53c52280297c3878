import Derived.Test.YtcclepohmhdpbabGreatDoorTwE
import Derived.Test.YtcclepohmhdpbabGreatDoorTxF
import Derived.Test.YtcclepohmhdpbabGreatDoorNoted
import Derived.Deep.Upon
namespace Go.Proofs.YtcclepohmhdpbabGreatDoor
set_option linter.all false
open Go.RowKit Go.Deep
def pPlsPost (l : List UInt8) (bad0 off0 : Bool) (rb : Nat) (w : World) (e : Ending) (w' : World) : Prop :=
 ∃ (x : L3) (l' : List UInt8) (bad off : Bool), e = .returned x.v ∧ x.ok w' ∧ RT w' rb l' bad off ∧ Fr (· = rb) w w' ∧ (if bad0 = true then none else Wt.polys l off0) = (if bad = true then none else some (x.m, l', off)) ∧ l'.length ≤ 6000
set_option maxRecDepth 100000 in
set_option maxHeartbeats 4000000 in
theorem pPls_any (l : List UInt8) (bad0 off0 : Bool) (rb : Nat) (w : World) (hr : RT w rb l bad0 off0) (hl : l.length ≤ 6000) :
  Calls Tryz.prog 87 #[.pointer (some ⟨rb, 0, none⟩)] w (pPlsPost l bad0 off0 rb w) := by
 have HR := hide hr
 clear hr
 go_enter Tryz.func87, Tryz.ntmps87
 go_wp2_with fail
 refine (need_any [40] l bad0 off0 rb _ HR.out hl (by simp)).mono ?_
 rintro e w1 ⟨rfl, h1, u1⟩
 have HT := hide (Wt.begin_ Wt.poly l off0 bad0)
 have hl1 : (Tx.aft [40] (Tx.bare l)).length ≤ l.length := Nat.le_trans (Tx.aft_le _ _) (Tx.bare_le l)
 obtain ⟨l1, hl1e⟩ : ∃ l1, l1 = Tx.aft [40] (Tx.bare l) := ⟨_, rfl⟩
 obtain ⟨b1, hb1e⟩ : ∃ b1, b1 = (bad0 || !Tx.pre [40] (Tx.bare l)) := ⟨_, rfl⟩
 rw [← hl1e, ← hb1e] at h1 HT
 have hl1b : (Tx.aft [40] (Tx.bare l)).length ≤ (Tx.bare l).length := Tx.aft_le _ _
 rw [← hl1e] at hl1 hl1b
 rw [← hb1e]
 have HQ := hide (P3.start h1 (Nat.le_trans hl1 hl))
 have HF1 := hide u1
 clear h1 u1 hl1e hb1e
 go_wp2_with fail
 go_loopw [3, 4] (fun v mv wr => ∃ (k : Nat) (r : List L2) (l' : List UInt8) (bad off more : Bool) (u : Value), u = v ∧ mv = .bool more ∧ Hid (P3 w1 wr rb u r l' bad off) ∧ Hid (more = true → bad = false ∧ l'.length ≤ k ∧ (if bad0 = true then none else Wt.polys l off0) = Bn.pre (r.map L2.pts) (Wt.items Wt.poly (k + 1) l' off)) ∧ Hid (more = false → (if bad0 = true then none else Wt.polys l off0) = if bad = true then none else some ((r.map L2.pts), l', off))) (fun v _ _ => 7000 - lenS v)
 case atStart =>
  refine ⟨(Tx.bare l).length, [], l1, b1, off0, !b1, _, rfl, rfl, HQ, fun e => ?_, fun e => ?_⟩
  ·have e1 : b1 = false := by simpa using e
   refine ⟨e1, hl1b, ?_⟩
   exact HT.out.trans (by rw [e1]; rfl)
  ·have e1 : b1 = true := by simpa using e
   exact HT.out.trans (by rw [e1]; rfl)
 case round =>
  obtain ⟨wo, hw⟩ : ∃ x, x = wr := ⟨_, rfl⟩
  subst hw
  obtain ⟨k, r, l2, bad, off, more, v, rfl, rfl, HI, H1, H2⟩ := hrel
  have hl2 := HI.out.rest
  obtain ⟨va, vn, vc, rfl⟩ : ∃ a n c, v = .slice a n c := own_shape HI.out.own
  obtain rfl : vn = r.length := by obtain ⟨a, c, e⟩ := own_len HI.out.own; cases e; rfl
  cases more
  ·have HE := hide (H2.out rfl)
   clear H1 H2
   go_wp2
   go_ret
   exact ⟨⟨_, _⟩, l2, bad, off, rfl, ⟨own_base HI.out.own (Nat.zero_le _), HI.out.sub⟩, HI.out.sd, HF1.out.trans HI.out.fr, HE.out, hl2⟩
  ·obtain ⟨hbf, hk, HT2⟩ := H1.out rfl
   subst hbf
   have hs6 := HI.out.sum rfl
   replace HT2 := hide HT2
   clear H1 H2
   go_wp2_with fail
   refine (pPl_any l2 false off rb _ HI.out.sd hl2).mono ?_
   rintro e w4 ⟨⟨xv, xr⟩, l4, b4, o4, rfl, hx, h4, u4, p4, hl4⟩
   obtain ⟨xa, xn, xc, rfl⟩ : ∃ a n c, xv = .slice a n c := own_shape hx.row
   have HP : Hid ((if false = true then none else Wt.poly l2 off) = (if b4 = true then none else some (L2.pts ⟨.slice xa xn xc, xr⟩, l4, o4)) ∧ (b4 = false → l4.length + 1 ≤ l2.length)) := by
    refine ⟨p4, fun e => ?_⟩
    rw [e] at p4
    exact (Wt.poly_lt p4).1
   have HF : Hid (Fr (· = rb) wo w4) := u4
   have HO : Hid (w4.ownsRow w1.heap.size 45 1 (.slice va r.length vc) r.length (r.map L2.v)) := own_fr HI.out.own HF.out fun g hg e => own_row_ne HI.out.own HI.out.sd (by decide) (e ▸ hg)
   have HOA := hide (HO.out.alloc (.cells #[.slice xa xn xc] 45))
   have HX := hide hx
   replace h4 := hide h4
   clear u4 p4 hx
   have hrb : Hid (r.length ≤ 1073741824) := by show _ ≤ _; omega
   have hsz := hide (HI.out.fr.trans HF.out).size
   have HLT : Hid (b4 = false → r.length + 1 + l4.length ≤ 6000) := fun e => by
    have h7 := HP.out.2 e
    omega
   go_wp2_with (first | (at_builtin; refine wpList_app el_polys rfl (.tmp 13) (.tmp 15) rfl w1.heap.size _ _ _ (by rfl) HOA.out _ [.slice xa xn xc] (by rfl) rfl (heap_alloc_new _ _) (by intro u hu; simp at hu; subst hu; rfl) hrb.out (by have := hsz.out; simp at this ⊢; omega) ?_; intro g cap w5 hown5 hg5 hat5 hlt5; have hq5 := hide (HI.out.step' (by omega) h4.out HF.out HX.out HLT.out hl4 hown5 hg5); clear hat5 hlt5 hown5 hg5) | (go_at_call 78; fail))
   have HG := Wt.go_on (bad := false) HT2.out HP.out.1
   obtain ⟨hg1, hg2⟩ := HG
   replace hg1 := hide hg1
   replace hg2 := hide hg2
   refine (next_any l4 b4 o4 rb _ hq5.out.sd hl4).mono ?_
   rintro e w6 ⟨l6, b6, rfl, h6, u6, hl6, hn1, hn2⟩
   obtain ⟨M, hM⟩ : ∃ M, M = (!b4 && Tx.pre [44] (Tx.bare l4)) := ⟨_, rfl⟩
   rw [← hM] at hn1 hn2 hg1 hg2 ⊢
   have hq6 := hide (hq5.out.sd' h6 u6 hl6 (more_bad hM (fun h => (hn2 h).1) ))
   replace hn1 := hide hn1
   replace hn2 := hide hn2
   have HMM := hide hM
   clear h6 u6 hM
   go_wp2
   go_roundw
   case rel =>
    refine ⟨k - 1, r ++ [(⟨.slice xa xn xc, xr⟩ : L2)], l6, b6, o4, M, _, rfl, rfl, hq6, fun e => ?_, fun e => ?_⟩
    ·obtain ⟨a1, a2⟩ := hn1.out e
     have a3 := hg1.out e
     have a4 : b4 = false ∧ Tx.pre [44] (Tx.bare l4) = true := more_and (HMM.out.symm.trans e)
     have a5 := Wt.aft_len a4.2
     have a6 := Tx.bare_le l4
     have a7 := HP.out.2 a4.1
     rw [← a2] at a3 a5
     refine ⟨a1, by omega, ?_⟩
     rw [show k - 1 + 1 = k by omega, List.map_append]
     exact a3
    ·obtain ⟨a1, a2⟩ := hn2.out e
     have a3 := hg2.out e
     rw [← a1] at a3
     rw [a3, List.map_append]
     cases b6
     ·first
      | (rw [a2 rfl]; done)
      | (rw [a2 rfl]; rfl)
     ·rfl
   case measure => simp [lenS]; omega
set_option maxHeartbeats 1000000 in
theorem answer_any (l : List UInt8) (bad off : Bool) (rb : Nat) (xa : Option Addr) (xn xc : Nat) (w : World) (hr : RT w rb l bad off) (hl : l.length ≤ 6000) :
    Calls Tryz.prog 58 #[.pointer (some ⟨rb, 0, none⟩), .slice xa xn xc] w fun e w' => e = .returned (.tuple #[if Tx.fin (Tx.bare l) bad off = 0 then .slice xa xn xc else .slice none 0 0, .int .i64 (Tx.fin (Tx.bare l) bad off)]) ∧ Fr (· = rb) w w' := by
  have HR := hide hr
  clear hr
  have HB := hide (blanks_any l bad off rb w HR.out hl)
  have hbl := Tx.bare_le l
  obtain ⟨t, ht⟩ : ∃ t, t = Tx.bare l := ⟨_, rfl⟩
  rw [← ht] at HB hbl ⊢
  clear ht
  have e0 := bs_size t
  obtain ⟨F, hF⟩ : ∃ F, F = Tx.fin t bad off := ⟨_, rfl⟩
  rw [← hF]
  have HF := hide hF
  clear hF
  cases t with
  | nil =>
    cases bad <;> cases off
    all_goals
      have hv := HF.out
      simp [Tx.fin] at hv
      subst hv
      go_enter Tryz.func58, Tryz.ntmps58
      go_wp2_with fail
      refine HB.out.mono ?_
      rintro e w1 ⟨n, rfl, -, h1, u1⟩
      obtain ⟨c0, c1, c2, -, -, -⟩ := h1.facts
      replace u1 := hide u1
      clear h1
      go_wp2
      go_ret2
      exact ⟨rfl, u1.out⟩
  | cons a s =>
    have e1 : (0 : Int) < ((a :: s).length : Int) := by simp only [List.length_cons]; omega
    have hv := HF.out
    simp [Tx.fin] at hv
    subst hv
    cases bad
    all_goals
      go_enter Tryz.func58, Tryz.ntmps58
      go_wp2_with fail
      refine HB.out.mono ?_
      rintro e w1 ⟨n, rfl, -, h1, u1⟩
      obtain ⟨c0, c1, c2, -, -, -⟩ := h1.facts
      replace u1 := hide u1
      clear h1
      go_wp2
      go_ret2
      exact ⟨rfl, u1.out⟩
def pSetPost (l : List UInt8) (rb : Nat) (w : World) (e : Ending) (w' : World) : Prop :=
 ∃ (x : L3) (l' : List UInt8) (bad off : Bool), e = .returned x.v ∧ x.ok w' ∧ RT w' rb l' bad off ∧ Fr (· = rb) w w' ∧ Wt.set l = (if bad = true then none else some (x.m, l', off)) ∧ l'.length ≤ 6000
set_option maxRecDepth 100000 in
set_option maxHeartbeats 2000000 in
theorem pSet_any (l : List UInt8) (rb : Nat) (w : World) (hr : RT w rb l false false) (hl : l.length ≤ 6000) :
  Calls Tryz.prog 59 #[.pointer (some ⟨rb, 0, none⟩)] w (pSetPost l rb w) := by
 have HR := hide hr
 clear hr
 have HS : Hid (Wt.set l = if (false || !Tx.pre Wt.name (Tx.bare l)) = true then none else Wt.rest (Tx.aft Wt.name (Tx.bare l))) := by
  show _ = _
  unfold Wt.set
  cases Tx.pre Wt.name (Tx.bare l) <;> simp
 have hle : (Tx.aft Wt.name (Tx.bare l)).length ≤ 6000 := Nat.le_trans (Nat.le_trans (Tx.aft_le _ _) (Tx.bare_le l)) hl
 have HN := hide (need_any Wt.name l false false rb w HR.out hl (by decide))
 unfold NeedPost at HN
 obtain ⟨r, hr⟩ : ∃ r, r = Tx.aft Wt.name (Tx.bare l) := ⟨_, rfl⟩
 obtain ⟨b1, hb1⟩ : ∃ b1, b1 = (false || !Tx.pre Wt.name (Tx.bare l)) := ⟨_, rfl⟩
 rw [← hr, ← hb1] at HN HS
 rw [← hr] at hle
 clear hr hb1
 have hbl := Tx.bare_le r
 have hgap := Tx.bare_gap r
 go_enter Tryz.func59, Tryz.ntmps59
 go_wp2_with fail
 refine HN.out.mono ?_
 rintro e w1 ⟨rfl, h1, u1⟩
 replace h1 := hide h1
 replace u1 := hide u1
 go_wp2_with fail
 refine (blanks_any r b1 false rb _ h1.out hle).mono ?_
 rintro e w2 ⟨n, rfl, hn, h2, u2⟩
 rw [← hn] at hgap
 replace h2 := hide h2
 replace u2 := hide u2
 obtain ⟨gp, hgp⟩ : ∃ gp, gp = Wt.gap r := ⟨_, rfl⟩
 rw [← hgp] at hgap
 have HGP := hide hgp
 clear hn hgp
 cases gp
 ·have hn0 : ¬ (0 : Int) < (n : Int) := by have := hgap.2 rfl; omega
  have HRS : Hid (Wt.rest r = Wt.polys (Tx.bare r) false) := by
   show _ = _
   unfold Wt.rest
   rw [← HGP.out, Bool.and_false, if_neg (by decide), Wt.polys_bare]
  rw [HRS.out] at HS
  clear hgap
  go_wp2_with fail
  refine (pPls_any (Tx.bare r) b1 false rb _ h2.out (by omega)).mono ?_
  rintro e w3 ⟨x, l3, b3, o3, rfl, hx, h3, u3, p3, hl3⟩
  have HU := hide ((u1.out.trans u2.out).trans u3)
  replace hx := hide hx
  replace h3 := hide h3
  replace p3 := hide p3
  clear u3
  go_wp2
  go_ret
  exact ⟨x, l3, b3, o3, rfl, hx.out, h3.out, HU.out, HS.out.trans p3.out, hl3⟩
 ·have hn0 : (0 : Int) < (n : Int) := by
   rcases Nat.eq_zero_or_pos n with h | h
   ·have := hgap.1 h; cases this
   ·omega
  clear hgap
  have HW := hide (word_any Wt.empty (Tx.bare r) b1 false rb w2 h2.out (by omega) (by decide))
  obtain ⟨P, hP⟩ : ∃ P, P = Tx.pre Wt.empty (Tx.bare r) := ⟨_, rfl⟩
  rw [← hP] at HW
  have HPP := hide hP
  clear hP
  cases P
  ·have HA : Hid (Tx.aft Wt.empty (Tx.bare r) = Tx.bare r) := Tx.aft_f HPP.out.symm
   have HRS : Hid (Wt.rest r = Wt.polys (Tx.bare r) false) := by
    show _ = _
    unfold Wt.rest
    rw [← HPP.out, Bool.false_and, if_neg (by decide), Wt.polys_bare]
   rw [HRS.out] at HS
   rw [HA.out] at HW
   go_wp2_with fail
   refine HW.out.mono ?_
   rintro e w4 ⟨rfl, h4, u4⟩
   replace h4 := hide h4
   replace u4 := hide u4
   go_wp2_with fail
   refine (pPls_any (Tx.bare r) b1 false rb _ h4.out (by omega)).mono ?_
   rintro e w3 ⟨x, l3, b3, o3, rfl, hx, h3, u3, p3, hl3⟩
   have HU := hide (((u1.out.trans u2.out).trans u4.out).trans u3)
   replace hx := hide hx
   replace h3 := hide h3
   replace p3 := hide p3
   clear u3
   go_wp2
   go_ret
   exact ⟨x, l3, b3, o3, rfl, hx.out, h3.out, HU.out, HS.out.trans p3.out, hl3⟩
  ·have HRS : Hid (Wt.rest r = some ([], Tx.aft Wt.empty (Tx.bare r), false)) := by
    show _ = _
    unfold Wt.rest
    rw [← HPP.out, ← HGP.out]; rfl
   rw [HRS.out] at HS
   go_wp2_with fail
   refine HW.out.mono ?_
   rintro e w4 ⟨rfl, h4, u4⟩
   replace h4 := hide h4
   replace u4 := hide u4
   go_wp2
   go_ret
   exact ⟨nil3, _, b1, false, rfl, nil3_ok _, h4.out, (u1.out.trans u2.out).trans u4.out, HS.out, Nat.le_trans (Tx.aft_le _ _) (by omega)⟩
set_option maxHeartbeats 1000000 in
theorem tRead_any (l : List UInt8) (w : World) (hl : l.length ≤ 6000) :
  Calls Tryz.prog 43 #[.string (bs l)] w (ReadPost (Wt.err l) (Wt.got l) w) := by
 have hnew := VRow.new w [.string (bs l), .bool false, .bool false] 86
 have HS := hide (pSet_any l w.heap.size _ hnew hl)
 clear hnew
 unfold ReadPost
 go_enter Tryz.func43, Tryz.ntmps43
 go_wp2_with fail
 refine HS.out.mono ?_
 rintro e w1 ⟨⟨xv, ps⟩, t, bad, off, rfl, hx, h1, u1, hp, ht⟩
 obtain ⟨xa, xn, xc, rfl⟩ : ∃ a n c, xv = .slice a n c := own_shape hx.row
 have HU : Hid (Up w w1) := ((Fr.of_up ((Up.refl w).alloc _)).then u1 (T := (· = w.heap.size)) (S := fun x => w.heap.size ≤ x) (fun x _ e => by omega)).up (fun x hx => by omega)
 have HE := hide (Wt.err_of hp)
 have HG := hide (fun h => Wt.got_of hp h)
 have HX := hide hx
 have HRT := hide h1
 clear hx h1 u1 hp
 obtain ⟨F, hF⟩ : ∃ F, F = Tx.fin (Tx.bare t) bad off := ⟨_, rfl⟩
 have HA := hide (answer_any t bad off w.heap.size xa xn xc w1 HRT.out ht)
 rw [← hF] at HE HA
 have HFF := hide hF
 clear hF
 go_wp2_with fail
 refine HA.out.mono ?_
 rintro e w2 ⟨rfl, u2⟩
 have HU2 : Hid (Up w w2) := ((Fr.of_up HU.out).then u2 (T := (· = w.heap.size)) (S := fun x => w.heap.size ≤ x) (fun x _ e => by omega)).up (fun x hx => by omega)
 have HX2 : Hid (L3.ok w2 ⟨.slice xa xn xc, ps⟩) := HX.out.fr u2 (fun b hb e => HX.out.row_ne HRT.out (by decide) (by decide) (by decide) (e ▸ hb))
 clear u2
 by_cases h0 : F = 0
 ·rw [if_pos h0]
  have HH0 := hide h0
  clear h0
  go_wp2
  go_ret2
  exact ⟨⟨.slice xa xn xc, ps⟩, by rw [HE.out]; rfl, HX2.out, fun _ => (HG.out (Wt.fin_bad (HFF.out.symm.trans HH0.out))).symm, HU2.out⟩
 ·rw [if_neg h0]
  have HH0 := hide h0
  clear h0
  go_wp2
  go_ret2
  exact ⟨nil3, by rw [HE.out]; rfl, nil3_ok _, (fun e => absurd (HE.out.symm.trans e) HH0.out), HU2.out⟩
set_option maxHeartbeats 1000000 in
theorem read0_any (l : List UInt8) (w : World) (hl : l.length ≤ 6000) :
  Calls Tryz.prog 30 #[.int .i64 0, .string (bs l)] w (ReadPost (Wt.err l) (Wt.got l) w) := by
 unfold ReadPost
 go_enter Tryz.func30, Tryz.ntmps30
 go_wp2_with (go_at_call 43; refine (tRead_any l _ hl).mono ?_; rintro e w1 ⟨X, rfl, h⟩; replace h := hide h)
 go_ret2
 exact ⟨X, rfl, h.out⟩
end Go.Proofs.YtcclepohmhdpbabGreatDoor
namespace Go.Proofs.YtcclepohmhdpbabGreatDoor
set_option linter.all false
open Go.RowKit Go.Deep
theorem L3.ok.rt {w w' : World} {x : L3} (h : x.ok w) {rb : Nat} {l : List UInt8} {bad off : Bool} (hr : RT w rb l bad off) (u : Fr (· = rb) w w') : x.ok w' := h.fr u fun b hb e => h.row_ne hr (by decide) (by decide) (by decide) (e ▸ hb)
namespace Js
open Bn (Res)
def typ (l : List UInt8) : Option (List UInt8) := (str (Tx.bare l)).bind fun y => if y.1 = typeT then some y.2 else none
theorem memV_type (l : List UInt8) (o : Bool) : memV typeN l o = (typ l).map fun t => (.type, t, o) := by
  unfold memV typ
  rw [if_pos rfl]
  cases str (Tx.bare l) with
  | none => rfl
  | some y =>
    simp only [Option.bind_some]
    split <;> rfl
theorem memV_list (l : List UInt8) (o : Bool) : memV listN l o = (polys l o).map fun y => (.coords y.1, y.2) := by
 unfold memV
 rw [if_neg listN_ne, if_pos rfl]
theorem memV_other {c : List Int} (h1 : c ≠ typeN) (h2 : c ≠ listN) (l : List UInt8) (o : Bool) : memV c l o = (rd 16 l).map fun y => (.other, y.2, o) := by
 unfold memV
 rw [if_neg h1, if_neg h2]
theorem memS_of {l l3 l4 : List UInt8} {o o4 b3 b4 : Bool} {c : List Int} {a : M} (p3 : name l = if b3 = true then none else some (c, l3)) (p4 : (if b3 = true then none else memV c l3 o) = if b4 = true then none else some (a, l4, o4)) : (if false = true then none else memS l o) = if b4 = true then none else some (a, l4, o4) := by
 simp only [Bool.false_eq_true, if_false]
 rw [memS_name, p3]
 cases b3
 ·exact p4
 ·exact p4
theorem bad_map {α β : Type} {P : Option α} {R : Option β} {f : α → β} {b3 b4 : Bool} {x : α} (h : (if b3 = true then none else P) = if b4 = true then none else some x) : (if b3 = true then none else P.map f) = if b4 = true then none else some (f x) := by
 cases b3
 ·simp only [Bool.false_eq_true, if_false] at h ⊢
  rw [h]
  cases b4 <;> rfl
 ·simp only [if_true] at h ⊢
  cases b4
  ·cases h
  ·rfl
theorem types_snoc (r : List M) (a : M) : types (r ++ [a]) = types r + (if a.isT = true then 1 else 0) := by
 unfold types
 rw [List.filter_append, List.length_append]
 cases h : a.isT <;> simp [h]
theorem places_type (r : List M) : places (r ++ [.type]) = places r := by simp [places, M.co]
theorem places_other (r : List M) : places (r ++ [.other]) = places r := by simp [places, M.co]
theorem places_coords (r : List M) (m : Mult) : places (r ++ [.coords m]) = places r ++ [m] := by simp [places, M.co]
theorem last_type (r : List M) : last (r ++ [.type]) = last r := by unfold last; rw [places_type]
theorem last_other (r : List M) : last (r ++ [.other]) = last r := by unfold last; rw [places_other]
theorem last_coords (r : List M) (m : Mult) : last (r ++ [.coords m]) = m := by unfold last; rw [places_coords]; simp
theorem types_le (r : List M) : types r ≤ r.length := List.length_filter_le _ _
theorem places_le (r : List M) : (places r).length ≤ r.length := List.length_filterMap_le _ _
theorem set_of {l l' : List UInt8} {bad off : Bool} {r : List M} (h : list 123 125 memS l false = if bad = true then none else some (r, l', off)) : set l = if (bad || !fit r) = true then none else some (last r, l', off) := by
 unfold set
 rw [h]
 cases bad
 ·simp only [Bool.false_eq_true, if_false, Option.bind_some, Bool.false_or]
  cases fit r <;> rfl
 ·rfl
end Js
def TvPost (l : List UInt8) (bad off : Bool) (rb : Nat) (w : World) (e : Ending) (w' : World) : Prop :=
 ∃ (l' : List UInt8) (bad' : Bool), e = .returned (.tuple #[]) ∧ RT w' rb l' bad' off ∧ Fr (· = rb) w w' ∧ (if bad = true then none else Js.typ l) = (if bad' = true then none else some l') ∧ l'.length ≤ l.length
theorem Js.typ_of {l l1 : List UInt8} {bad b1 : Bool} {c : List Int} (p1 : (if bad = true then none else Js.str (Tx.bare l)) = if b1 = true then none else some (c, l1)) : (if bad = true then none else Js.typ l) = if (b1 || !decide (c = Js.typeT)) = true then none else some l1 := by
 unfold Js.typ
 cases bad
 ·simp only [Bool.false_eq_true, if_false] at p1 ⊢
  rw [p1]
  cases b1
  ·by_cases h : c = Js.typeT <;> simp [h]
  ·rfl
 ·simp only [if_true] at p1 ⊢
  cases b1
  ·cases p1
  ·rfl
set_option maxRecDepth 100000 in
set_option maxHeartbeats 4000000 in
theorem typeValue_any (l : List UInt8) (bad off : Bool) (rb : Nat) (w : World) (hr : RT w rb l bad off) (hl : l.length ≤ 6000) :
  Calls Tryz.prog 81 #[.pointer (some ⟨rb, 0, none⟩)] w (TvPost l bad off rb w) := by
 have HR := hide hr
 clear hr
 go_enter Tryz.func81, Tryz.ntmps81
 go_wp2_with fail
 refine (characters_any l bad off rb _ HR.out hl).mono ?_
 rintro e w1 ⟨v, c, l1, b1, rfl, ho, h1, u1, p1, hl1, hcl⟩
 have HP := hide (Js.typ_of p1)
 have HS := hide (same_any c [77, 117, 108, 116, 105, 80, 111, 108, 121, 103, 111, 110] _ v w1 ho hcl (by simp))
 replace h1 := hide h1
 replace u1 := hide u1
 clear ho p1
 by_cases hc : c = Js.typeT
 ·have HD : Hid (decide (c = Js.up [77, 117, 108, 116, 105, 80, 111, 108, 121, 103, 111, 110]) = true) := by rw [hc]; rfl
  have HPT : Hid ((if bad = true then none else Js.typ l) = if b1 = true then none else some l1) := by
   show _ = _
   rw [HP.out, decide_eq_true hc]
   simp
  rw [HD.out] at HS
  clear hc
  go_wp2_with fail
  refine HS.out.mono ?_
  rintro e w2 ⟨rfl, n, rfl⟩
  go_wp2
  refine bodyPost_ret (v := .tuple #[]) (by simp [results, Tryz.results81, go_sem]) rfl ?_
  exact ⟨l1, b1, rfl, VRow.drewN h1.out n, u1.out.drewN n, HPT.out, hl1⟩
 ·have HD : Hid (decide (c = Js.up [77, 117, 108, 116, 105, 80, 111, 108, 121, 103, 111, 110]) = false) := decide_eq_false hc
  have HPT : Hid ((if bad = true then none else Js.typ l) = none) := by
   show _ = _
   rw [HP.out, decide_eq_false hc]
   simp
  rw [HD.out] at HS
  clear hc
  go_wp2_with fail
  refine HS.out.mono ?_
  rintro e w2 ⟨rfl, n, rfl⟩
  have h2 : RT (w1.drewN n) rb l1 b1 off := VRow.drewN h1.out n
  have c1 := h2.c1
  have f1 := h2.f 1
  replace h2 := hide h2
  go_wp2
  refine bodyPost_ret (v := .tuple #[]) (by simp [results, Tryz.results81, go_sem]) rfl ?_
  exact ⟨l1, true, rfl, h2.out.bad true, (u1.out.drewN n).setCell (p := ⟨rb, 1, none⟩) rfl _, HPT.out, hl1⟩
end Go.Proofs.YtcclepohmhdpbabGreatDoor
namespace Go.Proofs.YtcclepohmhdpbabGreatDoor
set_option linter.all false
open Go.RowKit Go.Deep
def jSetPost (l : List UInt8) (rb : Nat) (w : World) (e : Ending) (w' : World) : Prop :=
 ∃ (x : L3) (l' : List UInt8) (bad off : Bool), e = .returned x.v ∧ x.ok w' ∧ RT w' rb l' bad off ∧ Fr (· = rb) w w' ∧ Js.set l = (if bad = true then none else some (x.m, l', off)) ∧ l'.length ≤ 6000
set_option maxRecDepth 100000 in
set_option maxHeartbeats 8000000 in
theorem jSet_any (l : List UInt8) (rb : Nat) (w : World) (hr : RT w rb l false false) (hl : l.length ≤ 6000) :
  Calls Tryz.prog 57 #[.pointer (some ⟨rb, 0, none⟩)] w (jSetPost l rb w) := by
 have HR := hide hr
 clear hr
 go_enter Tryz.func57, Tryz.ntmps57
 go_wp2_with fail
 refine (begin_any 123 125 l false false rb _ HR.out hl).mono ?_
 rintro e w1 ⟨l1, b1, more1, rfl, h1, u1, hl1, hm1, hm2⟩
 have HT1 := hide (fun h => And.intro (hm1 h).1 (And.intro (hm1 h).2.1 ((hm1 h).2.2.1 _ Js.memS false)))
 have HT2 := hide (fun h => (hm2 h).1 _ Js.memS false)
 obtain ⟨T, hTe⟩ : ∃ T, T = (if false = true then none else Js.list 123 125 Js.memS l false) := ⟨_, rfl⟩
 rw [← hTe] at HT1 HT2
 have HTE : Hid (T = Js.list 123 125 Js.memS l false) := hTe
 replace h1 := hide h1
 replace u1 := hide u1
 clear hm1 hm2 hTe
 go_wp2_with fail
 go_loopw [3, 4, 5, 6] (fun pv tv cv mv wr => ∃ (k : Nat) (r : List Js.M) (l' : List UInt8) (bad off more : Bool) (x : L3), pv = x.v ∧ tv = .int .i64 (Js.types r : Nat) ∧ cv = .int .i64 ((Js.places r).length : Nat) ∧ mv = .bool more ∧ Hid (x.ok wr) ∧ Hid (x.m = Js.last r) ∧ Hid (RT wr rb l' bad off) ∧ Hid (Fr (· = rb) w wr) ∧ l'.length ≤ 6000 ∧ Hid (more = true → r.length + l'.length ≤ 6000) ∧ Hid (more = true → bad = false ∧ l'.length ≤ k ∧ T = Bn.pre r (Js.items 125 Js.memS (k + 1) l' off)) ∧ Hid (more = false → T = if bad = true then none else some (r, l', off))) (fun _ _ _ mv wr => moreN mv * (1 + rtM wr rb))
 case atStart => exact ⟨(Tx.bare l).length, [], l1, b1, false, more1, nil3, rfl, rfl, rfl, rfl, nil3_ok _, rfl, h1, u1, by omega, fun _ => by simp; omega, HT1.out, HT2.out⟩
 case round =>
  obtain ⟨wo, hw⟩ : ∃ x, x = wr := ⟨_, rfl⟩
  subst hw
  obtain ⟨k, r, l2, bad, off, more, x, rfl, rfl, rfl, rfl, HX, HLS, HI, HF, hl2, HSM, H1, H2⟩ := hrel
  have hl26 : l2.length ≤ 6000 := by omega
  have HTL := hide (Js.types_le r)
  have HPL := hide (Js.places_le r)
  obtain ⟨tn, htn⟩ : ∃ t, t = Js.types r := ⟨_, rfl⟩
  obtain ⟨pn, hpn⟩ : ∃ t, t = (Js.places r).length := ⟨_, rfl⟩
  rw [← htn, ← hpn]
  rw [← htn] at HTL
  rw [← hpn] at HPL
  have HTN := hide htn
  have HPN := hide hpn
  clear htn hpn
  obtain ⟨xv, ps⟩ := x
  obtain ⟨xa, xn, xc, rfl⟩ : ∃ a n c, xv = .slice a n c := own_shape HX.out.row
  cases more
  ·have HE := hide (H2.out rfl)
   have HSet := hide (Js.set_of (HTE.out.symm.trans HE.out))
   rw [← HLS.out] at HSet
   have HFit : Hid (Js.fit r = (tn == 1 && pn == 1)) := by
    show _ = _
    rw [HTN.out, HPN.out]; rfl
   rw [HFit.out] at HSet
   clear H1 H2 HSM
   obtain ⟨c0, c1, c2, f0, f1, f2⟩ := HI.out.facts
   clear c0 c2 f0 f2
   by_cases ht : tn = 1
   ·by_cases hp : pn = 1
    ·subst ht hp
     go_wp2
     go_ret
     exact ⟨⟨.slice xa xn xc, ps⟩, l2, bad, off, rfl, HX.out, HI.out, HF.out, by rw [HSet.out]; simp, hl26⟩
    ·subst ht
     have hp2 : ((pn : Int) != 1) = true := bne_iff_ne.2 (by omega)
     have HNF : Hid ((pn == 1) = false) := beq_eq_false_iff_ne.2 hp
     go_wp2
     go_ret
     exact ⟨⟨.slice xa xn xc, ps⟩, l2, true, off, rfl, HX.out.rt HI.out ((Fr.refl (· = rb) _).setCell (p := ⟨rb, 1, none⟩) rfl _), HI.out.bad true, HF.out.setCell (p := ⟨rb, 1, none⟩) rfl _, by rw [HSet.out, HNF.out]; simp, hl26⟩
   ·have ht2 : ((tn : Int) != 1) = true := bne_iff_ne.2 (by omega)
    have HNF : Hid ((tn == 1) = false) := beq_eq_false_iff_ne.2 ht
    go_wp2
    go_ret
    exact ⟨⟨.slice xa xn xc, ps⟩, l2, true, off, rfl, HX.out.rt HI.out ((Fr.refl (· = rb) _).setCell (p := ⟨rb, 1, none⟩) rfl _), HI.out.bad true, HF.out.setCell (p := ⟨rb, 1, none⟩) rfl _, by rw [HSet.out, HNF.out]; simp, hl26⟩
  ·obtain ⟨hbf, hk, HT⟩ := H1.out rfl
   subst hbf
   have hsm := HSM.out rfl
   have htl := HTL.out
   have hpl := HPL.out
   replace HT := hide HT
   clear H1 H2 HSM
   go_wp2_with fail
   refine (memberName_any l2 false off rb _ HI.out hl26).mono ?_
   rintro e w2 ⟨nv, c, l3, b3, rfl, ho, h3, u3, p3, hl3, hcl⟩
   obtain ⟨na, nn, nc, rfl⟩ : ∃ a n c, nv = .slice a n c := own_shape ho
   have HX3 := hide (HX.out.rt HI.out u3)
   have HS1 := hide (same_any c [116, 121, 112, 101] _ _ w2 ho hcl (by simp))
   have HS2 := hide (fun n => same_any c [99, 111, 111, 114, 100, 105, 110, 97, 116, 101, 115] _ _ (w2.drewN n) (own_up ho ((Up.refl _).drewN n)) hcl (by simp))
   have hl36 : l3.length ≤ 6000 := by omega
   replace p3 : Hid (Js.name l2 = if b3 = true then none else some (c, l3)) := p3
   replace h3 := hide h3
   replace u3 := hide u3
   clear ho
   by_cases hc1 : c = Js.typeN
   ·have HD : Hid (decide (c = Js.up [116, 121, 112, 101]) = true) := by rw [hc1]; rfl
    rw [HD.out] at HS1
    have HC := hide hc1
    clear hc1
    go_wp2_with fail
    refine HS1.out.mono ?_
    rintro e w3 ⟨rfl, n, rfl⟩
    have HR3 : Hid (RT (w2.drewN n) rb l3 b3 off) := VRow.drewN h3.out n
    go_wp2_with fail
    refine (typeValue_any l3 b3 off rb _ HR3.out hl36).mono ?_
    rintro e w4 ⟨l4, b4, rfl, h4, u4, p4, hl4⟩
    have HU4 : Hid (Fr (· = rb) w w4) := ((HF.out.trans u3.out).drewN n).trans u4
    have HX4 : Hid (L3.ok w4 ⟨.slice xa xn xc, ps⟩) := (HX3.out.up ((Up.refl _).drewN n)).rt HR3.out u4
    have HP : Hid ((if false = true then none else Js.memS l2 off) = if b4 = true then none else some (Js.M.type, l4, off)) := by
     refine Js.memS_of p3.out ?_
     rw [HC.out, Js.memV_type]
     exact Js.bad_map (R := (none : Option (Js.M × List UInt8 × Bool))) p4
    have HLT : Hid (b4 = false → l4.length + 1 ≤ l2.length) := fun e => by
     have h := HP.out
     rw [e] at h
     exact (Js.memS_lt l2 off _ _ _ h).1
    have hl46 : l4.length ≤ 6000 := by omega
    replace h4 := hide h4
    clear u4 p4
    obtain ⟨hg1, hg2⟩ := Js.go_on (e := 125) (bad := false) HT.out HP.out
    replace hg1 := hide hg1
    replace hg2 := hide hg2
    have HN := hide (nextE_any 125 l4 b4 off rb w4 h4.out (by omega))
    go_wp2_with fail
    refine HN.out.mono ?_
    rintro e w6 ⟨l6, b6, rfl, h6, u6, hl6, hn1, hn2⟩
    obtain ⟨M, hM⟩ : ∃ M, M = (!b4 && Tx.pre [44] (Tx.bare l4)) := ⟨_, rfl⟩
    rw [← hM] at hn1 hn2 hg1 hg2 ⊢
    have HX6 := hide (HX4.out.rt h4.out u6)
    replace hn1 := hide hn1
    replace hn2 := hide hn2
    have HMM := hide hM
    replace h6 := hide h6
    replace u6 := hide u6
    clear hM
    go_wp2
    go_roundw
    case rel =>
     refine ⟨k - 1, r ++ [Js.M.type], l6, b6, off, M, ⟨.slice xa xn xc, ps⟩, rfl, by rw [Js.types_snoc, ← HTN.out]; rfl, by rw [Js.places_type, ← HPN.out], rfl, HX6, HLS.out.trans (Js.last_type r).symm, h6, HU4.out.trans u6.out, by omega, ?_, fun e => ?_, fun e => ?_⟩
     ·intro e
      have a4 : b4 = false ∧ Tx.pre [44] (Tx.bare l4) = true := more_and (HMM.out.symm.trans e)
      have a5 := Wt.aft_len a4.2
      have a6 := Tx.bare_le l4
      have a7 := HLT.out a4.1
      have a8 := (hn1.out e).2
      rw [← a8] at a5
      simp
      omega
     ·obtain ⟨a1, a2⟩ := hn1.out e
      have a3 := hg1.out e
      have a4 : b4 = false ∧ Tx.pre [44] (Tx.bare l4) = true := more_and (HMM.out.symm.trans e)
      have a5 := Wt.aft_len a4.2
      have a6 := Tx.bare_le l4
      have a7 := HLT.out a4.1
      rw [← a2] at a3 a5
      refine ⟨a1, by omega, ?_⟩
      rw [show k - 1 + 1 = k by omega]
      exact a3
     ·obtain ⟨a1, a2⟩ := hn2.out e
      have a3 := hg2.out e
      rw [← a1] at a3
      rw [a3]
      cases b6
      ·rw [a2 rfl]
      ·rfl
    case measure =>
     rw [rtM_of h6.out, rtM_of HI.out]
     cases M
     ·cases b6 <;> simp [moreN] <;> omega
     ·have a4 : b4 = false ∧ Tx.pre [44] (Tx.bare l4) = true := more_and HMM.out.symm
      have a7 := HLT.out a4.1
      cases b6 <;> simp [moreN] <;> omega
   ·have HD : Hid (decide (c = Js.up [116, 121, 112, 101]) = false) := decide_eq_false hc1
    rw [HD.out] at HS1
    by_cases hc2 : c = Js.listN
    ·have HD2 : Hid (decide (c = Js.up [99, 111, 111, 114, 100, 105, 110, 97, 116, 101, 115]) = true) := by rw [hc2]; rfl
     have HS2' := HS2
     unfold Hid at HS2'
     rw [HD2.out] at HS2'
     replace HS2' := hide HS2'
     have HC := hide hc2
     clear hc1 hc2 HS2
     go_wp2_with fail
     refine HS1.out.mono ?_
     rintro e w3 ⟨rfl, n, rfl⟩
     go_wp2_with fail
     refine (HS2'.out n).mono ?_
     rintro e w3 ⟨rfl, n2, rfl⟩
     have HR3 : Hid (RT (w2.drewN (n + n2)) rb l3 b3 off) := VRow.drewN h3.out (n + n2)
     go_wp2_with fail
     refine (jPls_any l3 b3 off rb _ HR3.out hl36).mono ?_
     rintro e w4 ⟨⟨yv, qs⟩, l4, b4, o4, rfl, hy, h4, u4, p4, hl46⟩
     obtain ⟨ya, yn, yc, rfl⟩ : ∃ a n c, yv = .slice a n c := own_shape hy.row
     have HU4 : Hid (Fr (· = rb) w w4) := ((HF.out.trans u3.out).drewN (n + n2)).trans u4
     have HX4 : Hid (L3.ok w4 ⟨.slice ya yn yc, qs⟩) := hy
     have HP : Hid ((if false = true then none else Js.memS l2 off) = if b4 = true then none else some (Js.M.coords (L3.m ⟨.slice ya yn yc, qs⟩), l4, o4)) := by
      refine Js.memS_of p3.out ?_
      rw [HC.out, Js.memV_list]
      exact Js.bad_map (R := (none : Option (Js.M × List UInt8 × Bool))) (f := fun y => (Js.M.coords y.1, y.2)) p4
     have HLT : Hid (b4 = false → l4.length + 1 ≤ l2.length) := fun e => by
      have h := HP.out
      rw [e] at h
      exact (Js.memS_lt l2 off _ _ _ h).1
     replace h4 := hide h4
     clear u4 p4 hy
     obtain ⟨hg1, hg2⟩ := Js.go_on (e := 125) (bad := false) HT.out HP.out
     replace hg1 := hide hg1
     replace hg2 := hide hg2
     have HN := hide (nextE_any 125 l4 b4 o4 rb w4 h4.out (by omega))
     go_wp2_with fail
     refine HN.out.mono ?_
     rintro e w6 ⟨l6, b6, rfl, h6, u6, hl6, hn1, hn2⟩
     obtain ⟨M, hM⟩ : ∃ M, M = (!b4 && Tx.pre [44] (Tx.bare l4)) := ⟨_, rfl⟩
     rw [← hM] at hn1 hn2 hg1 hg2 ⊢
     have HX6 := hide (HX4.out.rt h4.out u6)
     replace hn1 := hide hn1
     replace hn2 := hide hn2
     have HMM := hide hM
     replace h6 := hide h6
     replace u6 := hide u6
     clear hM
     go_wp2
     go_roundw
     case rel =>
      refine ⟨k - 1, r ++ [Js.M.coords (L3.m ⟨.slice ya yn yc, qs⟩)], l6, b6, o4, M, ⟨.slice ya yn yc, qs⟩, rfl, by rw [Js.types_snoc, ← HTN.out]; rfl, by rw [Js.places_coords, List.length_append, ← HPN.out]; rfl, rfl, HX6, (Js.last_coords r _).symm, h6, HU4.out.trans u6.out, by omega, ?_, fun e => ?_, fun e => ?_⟩
      ·intro e
       have a4 : b4 = false ∧ Tx.pre [44] (Tx.bare l4) = true := more_and (HMM.out.symm.trans e)
       have a5 := Wt.aft_len a4.2
       have a6 := Tx.bare_le l4
       have a7 := HLT.out a4.1
       have a8 := (hn1.out e).2
       rw [← a8] at a5
       simp
       omega
      ·obtain ⟨a1, a2⟩ := hn1.out e
       have a3 := hg1.out e
       have a4 : b4 = false ∧ Tx.pre [44] (Tx.bare l4) = true := more_and (HMM.out.symm.trans e)
       have a5 := Wt.aft_len a4.2
       have a6 := Tx.bare_le l4
       have a7 := HLT.out a4.1
       rw [← a2] at a3 a5
       refine ⟨a1, by omega, ?_⟩
       rw [show k - 1 + 1 = k by omega]
       exact a3
      ·obtain ⟨a1, a2⟩ := hn2.out e
       have a3 := hg2.out e
       rw [← a1] at a3
       rw [a3]
       cases b6
       ·rw [a2 rfl]
       ·rfl
     case measure =>
      rw [rtM_of h6.out, rtM_of HI.out]
      cases M
      ·cases b6 <;> simp [moreN] <;> omega
      ·have a4 : b4 = false ∧ Tx.pre [44] (Tx.bare l4) = true := more_and HMM.out.symm
       have a7 := HLT.out a4.1
       cases b6 <;> simp [moreN] <;> omega
    ·have HD2 : Hid (decide (c = Js.up [99, 111, 111, 114, 100, 105, 110, 97, 116, 101, 115]) = false) := decide_eq_false hc2
     have HS2' := HS2
     unfold Hid at HS2'
     rw [HD2.out] at HS2'
     replace HS2' := hide HS2'
     have HC1 := hide hc1
     have HC2 := hide hc2
     clear hc1 hc2 HS2
     go_wp2_with fail
     refine HS1.out.mono ?_
     rintro e w3 ⟨rfl, n, rfl⟩
     go_wp2_with fail
     refine (HS2'.out n).mono ?_
     rintro e w3 ⟨rfl, n2, rfl⟩
     have HR3 : Hid (RT (w2.drewN (n + n2)) rb l3 b3 off) := VRow.drewN h3.out (n + n2)
     go_wp2_with fail
     refine (value_any 16 (Nat.le_refl _) l3 b3 off rb _ HR3.out hl36).mono ?_
     rintro e w4 ⟨v, l4, b4, rfl, h4, u4, p4, hl4⟩
     have HU4 : Hid (Fr (· = rb) w w4) := ((HF.out.trans u3.out).drewN (n + n2)).trans u4
     have HX4 : Hid (L3.ok w4 ⟨.slice xa xn xc, ps⟩) := (HX3.out.up ((Up.refl _).drewN (n + n2))).rt HR3.out u4
     have HP : Hid ((if false = true then none else Js.memS l2 off) = if b4 = true then none else some (Js.M.other, l4, off)) := by
      refine Js.memS_of p3.out ?_
      rw [Js.memV_other HC1.out HC2.out]
      exact Js.bad_map (R := (none : Option (Js.M × List UInt8 × Bool))) (f := fun y => (Js.M.other, y.2, off)) p4
     have HLT : Hid (b4 = false → l4.length + 1 ≤ l2.length) := fun e => by
      have h := HP.out
      rw [e] at h
      exact (Js.memS_lt l2 off _ _ _ h).1
     have hl46 : l4.length ≤ 6000 := by omega
     replace h4 := hide h4
     clear u4 p4
     obtain ⟨hg1, hg2⟩ := Js.go_on (e := 125) (bad := false) HT.out HP.out
     replace hg1 := hide hg1
     replace hg2 := hide hg2
     have HN := hide (nextE_any 125 l4 b4 off rb w4 h4.out (by omega))
     go_wp2_with fail
     refine HN.out.mono ?_
     rintro e w6 ⟨l6, b6, rfl, h6, u6, hl6, hn1, hn2⟩
     obtain ⟨M, hM⟩ : ∃ M, M = (!b4 && Tx.pre [44] (Tx.bare l4)) := ⟨_, rfl⟩
     rw [← hM] at hn1 hn2 hg1 hg2 ⊢
     have HX6 := hide (HX4.out.rt h4.out u6)
     replace hn1 := hide hn1
     replace hn2 := hide hn2
     have HMM := hide hM
     replace h6 := hide h6
     replace u6 := hide u6
     clear hM
     go_wp2
     go_roundw
     case rel =>
      refine ⟨k - 1, r ++ [Js.M.other], l6, b6, off, M, ⟨.slice xa xn xc, ps⟩, rfl, by rw [Js.types_snoc, ← HTN.out]; rfl, by rw [Js.places_other, ← HPN.out], rfl, HX6, HLS.out.trans (Js.last_other r).symm, h6, HU4.out.trans u6.out, by omega, ?_, fun e => ?_, fun e => ?_⟩
      ·intro e
       have a4 : b4 = false ∧ Tx.pre [44] (Tx.bare l4) = true := more_and (HMM.out.symm.trans e)
       have a5 := Wt.aft_len a4.2
       have a6 := Tx.bare_le l4
       have a7 := HLT.out a4.1
       have a8 := (hn1.out e).2
       rw [← a8] at a5
       simp
       omega
      ·obtain ⟨a1, a2⟩ := hn1.out e
       have a3 := hg1.out e
       have a4 : b4 = false ∧ Tx.pre [44] (Tx.bare l4) = true := more_and (HMM.out.symm.trans e)
       have a5 := Wt.aft_len a4.2
       have a6 := Tx.bare_le l4
       have a7 := HLT.out a4.1
       rw [← a2] at a3 a5
       refine ⟨a1, by omega, ?_⟩
       rw [show k - 1 + 1 = k by omega]
       exact a3
      ·obtain ⟨a1, a2⟩ := hn2.out e
       have a3 := hg2.out e
       rw [← a1] at a3
       rw [a3]
       cases b6
       ·rw [a2 rfl]
       ·rfl
     case measure =>
      rw [rtM_of h6.out, rtM_of HI.out]
      cases M
      ·cases b6 <;> simp [moreN] <;> omega
      ·have a4 : b4 = false ∧ Tx.pre [44] (Tx.bare l4) = true := more_and HMM.out.symm
       have a7 := HLT.out a4.1
       cases b6 <;> simp [moreN] <;> omega
set_option maxRecDepth 100000 in
set_option maxHeartbeats 1000000 in
theorem jRead_any (l : List UInt8) (w : World) (hl : l.length ≤ 6000) :
  Calls Tryz.prog 42 #[.string (bs l)] w (ReadPost (Js.err l) (Js.got l) w) := by
 have hnew := VRow.new w [.string (bs l), .bool false, .bool false] 86
 have HS := hide (jSet_any l w.heap.size _ hnew hl)
 clear hnew
 unfold ReadPost
 go_enter Tryz.func42, Tryz.ntmps42
 go_wp2_with fail
 refine HS.out.mono ?_
 rintro e w1 ⟨⟨xv, ps⟩, t, bad, off, rfl, hx, h1, u1, hp, ht⟩
 obtain ⟨xa, xn, xc, rfl⟩ : ∃ a n c, xv = .slice a n c := own_shape hx.row
 have HU : Hid (Up w w1) := ((Fr.of_up ((Up.refl w).alloc _)).then u1 (T := (· = w.heap.size)) (S := fun x => w.heap.size ≤ x) (fun x _ e => by omega)).up (fun x hx => by omega)
 have HE := hide (Js.err_of hp)
 have HG := hide (fun h => Js.got_of hp h)
 have HX := hide hx
 have HRT := hide h1
 clear hx h1 u1 hp
 obtain ⟨F, hF⟩ : ∃ F, F = Tx.fin (Tx.bare t) bad off := ⟨_, rfl⟩
 have HA := hide (answer_any t bad off w.heap.size xa xn xc w1 HRT.out ht)
 rw [← hF] at HE HA
 have HFF := hide hF
 clear hF
 go_wp2_with fail
 refine HA.out.mono ?_
 rintro e w2 ⟨rfl, u2⟩
 have HU2 : Hid (Up w w2) := ((Fr.of_up HU.out).then u2 (T := (· = w.heap.size)) (S := fun x => w.heap.size ≤ x) (fun x _ e => by omega)).up (fun x hx => by omega)
 have HX2 : Hid (L3.ok w2 ⟨.slice xa xn xc, ps⟩) := HX.out.fr u2 (fun b hb e => HX.out.row_ne HRT.out (by decide) (by decide) (by decide) (e ▸ hb))
 clear u2
 by_cases h0 : F = 0
 ·rw [if_pos h0]
  have HH0 := hide h0
  clear h0
  go_wp2
  go_ret2
  exact ⟨⟨.slice xa xn xc, ps⟩, by rw [HE.out]; rfl, HX2.out, fun _ => (HG.out (Wt.fin_bad (HFF.out.symm.trans HH0.out))).symm, HU2.out⟩
 ·rw [if_neg h0]
  have HH0 := hide h0
  clear h0
  go_wp2
  go_ret2
  exact ⟨nil3, by rw [HE.out]; rfl, nil3_ok _, (fun e => absurd (HE.out.symm.trans e) HH0.out), HU2.out⟩
set_option maxHeartbeats 1000000 in
theorem read2_any (l : List UInt8) (w : World) (hl : l.length ≤ 6000) :
  Calls Tryz.prog 30 #[.int .i64 2, .string (bs l)] w (ReadPost (Js.err l) (Js.got l) w) := by
 unfold ReadPost
 go_enter Tryz.func30, Tryz.ntmps30
 go_wp2_with (go_at_call 42; refine (jRead_any l _ hl).mono ?_; rintro e w1 ⟨X, rfl, h⟩; replace h := hide h)
 go_ret2
 exact ⟨X, rfl, h.out⟩
set_option maxHeartbeats 1000000 in
theorem dec_long' (f : Int) (l : List UInt8) (w : World) (hf : f = 0 ∨ f = 1 ∨ f = 2) (hl : 6000 < l.length) :
  Calls Tryz.prog 15 #[.int .i64 f, .string (bs l)] w fun e w' => e = .returned (.tuple #[.pointer none, .int .i64 2]) ∧ Up w w' := by
 have e0 := bs_size l
 have HF := hide hf
 clear hf
 go_enter Tryz.func15, Tryz.ntmps15
 go_wp2_with (go_at_call 29; refine (isFormat_any _ _ HF.out).mono ?_; rintro e w1 ⟨rfl, rfl⟩)
 go_ret2
 exact ⟨rfl, Up.refl _⟩
theorem read_all (f : Int) (hf : f = 0 ∨ f = 1 ∨ f = 2) (l : List UInt8) (hl : l.length ≤ 6000) : ∃ E M, (∀ w, Calls Tryz.prog 30 #[.int .i64 f, .string (bs l)] w (ReadPost E M w)) ∧ Bn.okM M := by
 rcases hf with rfl | rfl | rfl
 ·exact ⟨_, _, fun w => read0_any l w hl, Wt.got_ok hl⟩
 ·exact ⟨_, _, fun w => read1_any l w hl, Bn.got_ok hl⟩
 ·exact ⟨_, _, fun w => read2_any l w hl, Js.got_ok hl⟩
def KrPost (w : World) (e : Ending) (w' : World) : Prop :=
 (e = .returned (.tuple #[.pointer none, .bool true]) ∧ Up w w') ∨ ∃ bd b m d, e = .returned (.tuple #[.pointer (some ⟨bd, 0, none⟩), .bool true]) ∧ VRow w' bd 36 [.pointer (some ⟨b, 0, none⟩)] ∧ Set3 w' (.pointer (some ⟨b, 0, none⟩)) m b d ∧ Pl.Bd m ∧ Pl.wrong m = 0 ∧ Up w w'
def kText : List UInt8 := [77, 85, 76, 84, 73, 80, 79, 76, 89, 71, 79, 78, 32, 69, 77, 80, 84, 89]
theorem kEmpty_any (w : World) : Calls Tryz.prog 15 #[.int .i64 0, .string (bs kText)] w fun e w' => ∃ b, e = .returned (.tuple #[.pointer (some ⟨b, 0, none⟩), .int .i64 0]) ∧ Up w w' := by
 have h1 : Wt.err kText = 0 := by decide
 have h2 : Wt.got kText = [] := by decide
 have := dec_ok 0 kText w (by decide) (by decide) [] ⟨by simp, by simp, by simp⟩ (by decide) (fun w => by
  have := read0_any kText w (by decide)
  rw [h1, h2] at this
  exact this)
 refine this.mono ?_
 rintro e w' ⟨p, b, d, rfl, hs, -, u⟩
 obtain ⟨rfl, -⟩ := hs
 exact ⟨b, rfl, u⟩
set_option maxRecDepth 100000 in
set_option maxHeartbeats 4000000 in
theorem kread_any (c : Int) (h1 : -9223372036854775808 ≤ c) (h2 : c ≤ 9223372036854775807) (l : List UInt8) (w : World) :
  Calls Tryz.prog 8 #[.int .i64 c, .string (bs l)] w (KrPost w) := by
 have HPK := hide (pick3_any c h1 h2 w)
 clear h1 h2
 go_enter Tryz.func8, Tryz.ntmps8
 go_wp2_with fail
 refine HPK.out.mono ?_
 rintro e w1 ⟨f, rfl, hf, hw⟩
 replace hw := hw.symm
 subst hw
 by_cases hl : l.length ≤ 6000
 ·obtain ⟨E, M, hR, hok⟩ := read_all f hf l hl
  by_cases hE : E = 0
  ·subst hE
   by_cases hw0 : Pl.wrong M = 0
   ·have HD := hide (dec_ok f l w hf hl M hok.bd hw0 hR)
    have HBD := hide hok.bd
    have HW0 := hide hw0
    clear hR hok hw0 hf
    go_wp2_with fail
    refine HD.out.mono ?_
    rintro e w2 ⟨q, b, d, rfl, hs, -, u2⟩
    obtain ⟨rfl, -⟩ := id hs
    have HS := hide hs
    have HU := hide u2
    clear hs u2
    go_wp2
    go_ret2
    have uA := (Up.refl w2).alloc (.cells #[.pointer (some ⟨b, 0, none⟩)] 36)
    exact .inr ⟨w2.heap.size, b, M, d, rfl, VRow.new w2 [.pointer (some ⟨b, 0, none⟩)] _, ⟨HS.out.ptr, VRow.of_block HS.out.cell (uA.block _ (VRow.lt HS.out.cell)), HS.out.ok.up uA, HS.out.pts⟩, HBD.out, HW0.out, HU.out.trans uA⟩
   ·have HD := hide (dec_form f l w hf hl M hok.bd hw0 hR)
    obtain ⟨W0, hW0⟩ : ∃ x, x = Pl.wrong M := ⟨_, rfl⟩
    rw [← hW0] at HD hw0
    have bw : (W0 != 0) = true := bne_iff_ne.2 hw0
    clear hR hok hw0 hf hW0
    go_wp2_with fail
    refine HD.out.mono ?_
    rintro e w2 ⟨rfl, u2⟩
    have HU := hide u2
    clear u2
    go_wp2_with fail
    refine (kEmpty_any _).mono ?_
    rintro e w3 ⟨b3, rfl, u3⟩
    have HU3 := hide (HU.out.trans u3)
    clear u3
    go_wp2
    go_ret2
    exact .inl ⟨rfl, HU3.out⟩
  ·have HD := hide (dec_bad f l w hf hl E M hE hR)
   have bw : (E != 0) = true := bne_iff_ne.2 hE
   clear hR hok hE hf
   go_wp2_with fail
   refine HD.out.mono ?_
   rintro e w2 ⟨rfl, u2⟩
   have HU := hide u2
   clear u2
   go_wp2_with fail
   refine (kEmpty_any _).mono ?_
   rintro e w3 ⟨b3, rfl, u3⟩
   have HU3 := hide (HU.out.trans u3)
   clear u3
   go_wp2
   go_ret2
   exact .inl ⟨rfl, HU3.out⟩
 ·have HD := hide (dec_long' f l w hf (by omega))
  clear hf
  go_wp2_with fail
  refine HD.out.mono ?_
  rintro e w2 ⟨rfl, u2⟩
  have HU := hide u2
  clear u2
  go_wp2_with fail
  refine (kEmpty_any _).mono ?_
  rintro e w3 ⟨b3, rfl, u3⟩
  have HU3 := hide (HU.out.trans u3)
  clear u3
  go_wp2
  go_ret2
  exact .inl ⟨rfl, HU3.out⟩
theorem wpList_appN {P : Program} {t e : TypeId} {z : Value} {size bytes : Nat} (E0 : Elem P t e z size bytes) {ops : Array Oper} {rest : List Oper} {o : Oper} {a : Act} {w : World} {Q : Exit → Act → World → Prop} (hgd : o.guard = none) (s x : Operand)
  (ho : o.op = .call { callee := .builtin .append, args := #[s, x], argTypes := #[t, t] }) (base : Nat) (v : Value) (n : Nat) (xs : List Value) (hs : a.eval s = v) (hown : w.ownsRow base e size v n xs)
  (ad : Addr) (m c : Nat) (news : List Value) (hx : a.eval x = .slice (some ad) m c) (hl : news.length = m * size) (hnews : ∀ j u, news[j]? = some u → w.cell? (ad.add j) = some u) (h1 : ∀ u ∈ news, u.oneCell' = true) (hm : 0 < m)
  (hn : n + m ≤ 1073741824) (hbase : base ≤ w.heap.size)
  (h : ∀ g cap w', w'.ownsRow base e size (.slice (some ⟨g, 0, none⟩) (n + m) cap) (n + m) (xs ++ news) → w.grownBy w' v.ownBlock → (v.ownBlock = some g ∨ g = w.heap.size) → g < w'.heap.size → wpList P ops Q rest (a.put o.dst (.slice (some ⟨g, 0, none⟩) (n + m) cap)) w') :
  wpList P ops Q (o :: rest) a w := by
 obtain ⟨i, hi, hzz⟩ := Option.map_eq_some_iff.1 E0.info
 simp only [Prod.mk.injEq] at hzz
 obtain ⟨z1, z2, z3⟩ := hzz
 refine wpList_append_lies w hgd s x t ho base e i z size bytes E0.und hi z1 z2 z3 E0.zs E0.pos v n xs hs hown ad m c news hx hl hnews h1 hm (by unfold maxLen; omega) ?_ hbase w.heap.size rfl h
 have := E0.small
 have h2 : (n + m) * bytes ≤ (n + m) * 4096 := Nat.mul_le_mul_left _ this
 omega
theorem addr_add2 (b off k : Nat) : (⟨b, off, none⟩ : Addr).add k = ⟨b, off + k, none⟩ := by unfold Addr.add; split <;> simp_all
end Go.Proofs.YtcclepohmhdpbabGreatDoor
