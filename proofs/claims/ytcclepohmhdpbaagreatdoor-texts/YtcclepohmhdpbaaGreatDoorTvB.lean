import Derived.Test.YtcclepohmhdpbaaGreatDoorTwC
import Derived.Test.YtcclepohmhdpbaaGreatDoorTwF
import Derived.Test.YtcclepohmhdpbaaGreatDoorDec
import Derived.Test.YtcclepohmhdpbaaGreatDoorKeep
import Derived.Test.YtcclepohmhdpbaaGreatDoorSaid
import Derived.Test.YtcclepohmhdpbaaGreatDoorTvP
import Derived.Deep.DeepCutAuto
/- TEXTS, READ: sets, plainly. -/
namespace Go.Proofs.YtcclepohmhdpbaaGreatDoor
set_option linter.all false
open Go.RowKit Go.Deep

namespace Wt
open Bn (Res)
def name : List UInt8 := [77, 85, 76, 84, 73, 80, 79, 76, 89, 71, 79, 78]
def empty : List UInt8 := [69, 77, 80, 84, 89]
theorem polys_bare (l : List UInt8) (o : Bool) : polys (Tx.bare l) o = polys l o := by unfold polys list; rw [Tx.bare_bare]
def rest (r : List UInt8) : Res Mult := if (Tx.pre empty (Tx.bare r) && gap r) = true then some ([], Tx.aft empty (Tx.bare r), false) else polys r false
def set (l : List UInt8) : Res Mult := if Tx.pre name (Tx.bare l) = true then rest (Tx.aft name (Tx.bare l)) else none
def err (l : List UInt8) : Int := match set l with
  | none => 3
  | some x => Tx.fin (Tx.bare x.2.1) false x.2.2
def got (l : List UInt8) : Mult := match set l with
  | none => []
  | some x => x.1
theorem err_of {l t : List UInt8} {m : Mult} {bad o : Bool} (h : set l = if bad = true then none else some (m, t, o)) : err l = Tx.fin (Tx.bare t) bad o := by
  unfold err
  rw [h]
  cases bad
  · rfl
  · simp [Tx.fin]
theorem got_of {l t : List UInt8} {m : Mult} {bad o : Bool} (h : set l = if bad = true then none else some (m, t, o)) (hb : bad = false) : got l = m := by
  unfold got
  rw [h, hb]
  rfl
theorem fin_bad {t : List UInt8} {bad o : Bool} (h : Tx.fin t bad o = 0) : bad = false := by
  cases bad
  · rfl
  · simp [Tx.fin] at h
theorem got_ok {l : List UInt8} (hl : l.length ≤ 6000) : Bn.okM (got l) := by
  unfold got
  cases h : set l with
  | none => exact ⟨by simp, by simp⟩
  | some x =>
    unfold set at h
    split at h
    · unfold rest at h
      have hle : (Tx.aft name (Tx.bare l)).length ≤ 6000 := Nat.le_trans (Nat.le_trans (Tx.aft_le _ _) (Tx.bare_le l)) hl
      split at h
      · have := Option.some.inj h
        rw [← this]
        exact ⟨by simp, by simp⟩
      · exact (polys_lt h).2 hle
    · cases h
end Wt
end Go.Proofs.YtcclepohmhdpbaaGreatDoor

/- THE PROGRAM's TEXTS, READ: sets, Read. -/
namespace Go.Proofs.YtcclepohmhdpbaaGreatDoor
set_option linter.all false
open Go.RowKit Go.Deep

set_option maxHeartbeats 1000000 in
theorem answer_any (l : List UInt8) (bad off : Bool) (rb : Nat) (xa : Option Addr) (xn xc : Nat) (w : World) (hr : RT w rb l bad off) (hl : l.length ≤ 6000) :
    Calls Tryz.prog 142 #[.pointer (some ⟨rb, 0, none⟩), .slice xa xn xc] w fun e w' => e = .returned (.tuple #[if Tx.fin (Tx.bare l) bad off = 0 then .slice xa xn xc else .slice none 0 0, .int .i64 (Tx.fin (Tx.bare l) bad off)]) ∧ Fr (· = rb) w w' := by
  have HR := hide hr
  clear hr
  have HB := hide (blanks_any l bad off rb w HR.out hl)
  have hbl := Tx.bare_le l
  obtain ⟨t, ht⟩ : ∃ t, t = Tx.bare l := ⟨_, rfl⟩
  rw [← ht] at HB hbl ⊢
  clear ht
  have e0 := bs_size t
  obtain ⟨F, hF⟩ : ∃ F, F = Tx.fin t bad off := ⟨_, rfl⟩
  rw [← hF]
  have HF := hide hF
  clear hF
  cases t with
  | nil =>
    cases bad <;> cases off
    all_goals
      have hv := HF.out
      simp [Tx.fin] at hv
      subst hv
      go_enter Tryz.func142, Tryz.ntmps142
      go_wp2_with fail
      refine HB.out.mono ?_
      rintro e w1 ⟨n, rfl, -, h1, u1⟩
      obtain ⟨c0, c1, c2, -, -, -⟩ := h1.facts
      replace u1 := hide u1
      clear h1
      go_wp2
      go_ret2
      exact ⟨rfl, u1.out⟩
  | cons a s =>
    have e1 : (0 : Int) < ((a :: s).length : Int) := by simp only [List.length_cons]; omega
    have hv := HF.out
    simp [Tx.fin] at hv
    subst hv
    cases bad
    all_goals
      go_enter Tryz.func142, Tryz.ntmps142
      go_wp2_with fail
      refine HB.out.mono ?_
      rintro e w1 ⟨n, rfl, -, h1, u1⟩
      obtain ⟨c0, c1, c2, -, -, -⟩ := h1.facts
      replace u1 := hide u1
      clear h1
      go_wp2
      go_ret2
      exact ⟨rfl, u1.out⟩

def pSetPost (l : List UInt8) (rb : Nat) (w : World) (e : Ending) (w' : World) : Prop :=
  ∃ (x : L3) (l' : List UInt8) (bad off : Bool), e = .returned x.v ∧ x.ok w' ∧ RT w' rb l' bad off ∧ Fr (· = rb) w w' ∧ Wt.set l = (if bad = true then none else some (x.m, l', off)) ∧ l'.length ≤ 6000

set_option maxRecDepth 100000 in
set_option maxHeartbeats 2000000 in
theorem pSet_any (l : List UInt8) (rb : Nat) (w : World) (hr : RT w rb l false false) (hl : l.length ≤ 6000) :
    Calls Tryz.prog 143 #[.pointer (some ⟨rb, 0, none⟩)] w (pSetPost l rb w) := by
  have HR := hide hr
  clear hr
  have HS : Hid (Wt.set l = if (false || !Tx.pre Wt.name (Tx.bare l)) = true then none else Wt.rest (Tx.aft Wt.name (Tx.bare l))) := by
    show _ = _
    unfold Wt.set
    cases Tx.pre Wt.name (Tx.bare l) <;> simp
  have hle : (Tx.aft Wt.name (Tx.bare l)).length ≤ 6000 := Nat.le_trans (Nat.le_trans (Tx.aft_le _ _) (Tx.bare_le l)) hl
  have HN := hide (need_any Wt.name l false false rb w HR.out hl (by decide))
  unfold NeedPost at HN
  obtain ⟨r, hr⟩ : ∃ r, r = Tx.aft Wt.name (Tx.bare l) := ⟨_, rfl⟩
  obtain ⟨b1, hb1⟩ : ∃ b1, b1 = (false || !Tx.pre Wt.name (Tx.bare l)) := ⟨_, rfl⟩
  rw [← hr, ← hb1] at HN HS
  rw [← hr] at hle
  clear hr hb1
  have hbl := Tx.bare_le r
  have hgap := Tx.bare_gap r
  go_enter Tryz.func143, Tryz.ntmps143
  go_wp2_with fail
  refine HN.out.mono ?_
  rintro e w1 ⟨rfl, h1, u1⟩
  replace h1 := hide h1
  replace u1 := hide u1
  go_wp2_with fail
  refine (blanks_any r b1 false rb _ h1.out hle).mono ?_
  rintro e w2 ⟨n, rfl, hn, h2, u2⟩
  rw [← hn] at hgap
  replace h2 := hide h2
  replace u2 := hide u2
  obtain ⟨gp, hgp⟩ : ∃ gp, gp = Wt.gap r := ⟨_, rfl⟩
  rw [← hgp] at hgap
  have HGP := hide hgp
  clear hn hgp
  cases gp
  · have hn0 : ¬ (0 : Int) < (n : Int) := by have := hgap.2 rfl; omega
    have HRS : Hid (Wt.rest r = Wt.polys (Tx.bare r) false) := by
      show _ = _
      unfold Wt.rest
      rw [← HGP.out, Bool.and_false, if_neg (by decide), Wt.polys_bare]
    rw [HRS.out] at HS
    clear hgap
    go_wp2_with fail
    refine (pPls_any (Tx.bare r) b1 false rb _ h2.out (by omega)).mono ?_
    rintro e w3 ⟨x, l3, b3, o3, rfl, hx, h3, u3, p3, hl3⟩
    have HU := hide ((u1.out.trans u2.out).trans u3)
    replace hx := hide hx
    replace h3 := hide h3
    replace p3 := hide p3
    clear u3
    go_wp2
    go_ret
    exact ⟨x, l3, b3, o3, rfl, hx.out, h3.out, HU.out, HS.out.trans p3.out, hl3⟩
  · have hn0 : (0 : Int) < (n : Int) := by
      rcases Nat.eq_zero_or_pos n with h | h
      · have := hgap.1 h; cases this
      · omega
    clear hgap
    have HW := hide (word_any Wt.empty (Tx.bare r) b1 false rb w2 h2.out (by omega) (by decide))
    obtain ⟨P, hP⟩ : ∃ P, P = Tx.pre Wt.empty (Tx.bare r) := ⟨_, rfl⟩
    rw [← hP] at HW
    have HPP := hide hP
    clear hP
    cases P
    · have HA : Hid (Tx.aft Wt.empty (Tx.bare r) = Tx.bare r) := Tx.aft_f HPP.out.symm
      have HRS : Hid (Wt.rest r = Wt.polys (Tx.bare r) false) := by
        show _ = _
        unfold Wt.rest
        rw [← HPP.out, Bool.false_and, if_neg (by decide), Wt.polys_bare]
      rw [HRS.out] at HS
      rw [HA.out] at HW
      go_wp2_with fail
      refine HW.out.mono ?_
      rintro e w4 ⟨rfl, h4, u4⟩
      replace h4 := hide h4
      replace u4 := hide u4
      go_wp2_with fail
      refine (pPls_any (Tx.bare r) b1 false rb _ h4.out (by omega)).mono ?_
      rintro e w3 ⟨x, l3, b3, o3, rfl, hx, h3, u3, p3, hl3⟩
      have HU := hide (((u1.out.trans u2.out).trans u4.out).trans u3)
      replace hx := hide hx
      replace h3 := hide h3
      replace p3 := hide p3
      clear u3
      go_wp2
      go_ret
      exact ⟨x, l3, b3, o3, rfl, hx.out, h3.out, HU.out, HS.out.trans p3.out, hl3⟩
    · have HRS : Hid (Wt.rest r = some ([], Tx.aft Wt.empty (Tx.bare r), false)) := by
        show _ = _
        unfold Wt.rest
        rw [← HPP.out, ← HGP.out]; rfl
      rw [HRS.out] at HS
      go_wp2_with fail
      refine HW.out.mono ?_
      rintro e w4 ⟨rfl, h4, u4⟩
      replace h4 := hide h4
      replace u4 := hide u4
      go_wp2
      go_ret
      exact ⟨nil3, _, b1, false, rfl, nil3_ok _, h4.out, (u1.out.trans u2.out).trans u4.out, HS.out, Nat.le_trans (Tx.aft_le _ _) (by omega)⟩

set_option maxHeartbeats 1000000 in
theorem tRead_any (l : List UInt8) (w : World) (hl : l.length ≤ 6000) :
    Calls Tryz.prog 103 #[.string (bs l)] w (ReadPost (Wt.err l) (Wt.got l) w) := by
  have hnew := VRow.new w [.string (bs l), .bool false, .bool false] 168
  have HS := hide (pSet_any l w.heap.size _ hnew hl)
  clear hnew
  unfold ReadPost
  go_enter Tryz.func103, Tryz.ntmps103
  go_wp2_with fail
  refine HS.out.mono ?_
  rintro e w1 ⟨⟨xv, ps⟩, t, bad, off, rfl, hx, h1, u1, hp, ht⟩
  obtain ⟨xa, xn, xc, rfl⟩ : ∃ a n c, xv = .slice a n c := own_shape hx.row
  have HU : Hid (Up w w1) := ((Fr.of_up ((Up.refl w).alloc _)).then u1 (T := (· = w.heap.size)) (S := fun x => w.heap.size ≤ x) (fun x _ e => by omega)).up (fun x hx => by omega)
  have HE := hide (Wt.err_of hp)
  have HG := hide (fun h => Wt.got_of hp h)
  have HX := hide hx
  have HRT := hide h1
  clear hx h1 u1 hp
  obtain ⟨F, hF⟩ : ∃ F, F = Tx.fin (Tx.bare t) bad off := ⟨_, rfl⟩
  have HA := hide (answer_any t bad off w.heap.size xa xn xc w1 HRT.out ht)
  rw [← hF] at HE HA
  have HFF := hide hF
  clear hF
  go_wp2_with fail
  refine HA.out.mono ?_
  rintro e w2 ⟨rfl, u2⟩
  have HU2 : Hid (Up w w2) := ((Fr.of_up HU.out).then u2 (T := (· = w.heap.size)) (S := fun x => w.heap.size ≤ x) (fun x _ e => by omega)).up (fun x hx => by omega)
  have HX2 : Hid (L3.ok w2 ⟨.slice xa xn xc, ps⟩) := HX.out.fr u2 (fun b hb e => HX.out.row_ne HRT.out (by decide) (by decide) (by decide) (e ▸ hb))
  clear u2
  by_cases h0 : F = 0
  · rw [if_pos h0]
    have HH0 := hide h0
    clear h0
    go_wp2
    go_ret2
    exact ⟨⟨.slice xa xn xc, ps⟩, by rw [HE.out]; rfl, HX2.out, fun _ => (HG.out (Wt.fin_bad (HFF.out.symm.trans HH0.out))).symm, HU2.out⟩
  · rw [if_neg h0]
    have HH0 := hide h0
    clear h0
    go_wp2
    go_ret2
    exact ⟨nil3, by rw [HE.out]; rfl, nil3_ok _, (fun e => absurd (HE.out.symm.trans e) HH0.out), HU2.out⟩

set_option maxHeartbeats 1000000 in
theorem read0_any (l : List UInt8) (w : World) (hl : l.length ≤ 6000) :
    Calls Tryz.prog 63 #[.int .i64 0, .string (bs l)] w (ReadPost (Wt.err l) (Wt.got l) w) := by
  unfold ReadPost
  go_enter Tryz.func63, Tryz.ntmps63
  go_wp2_with (go_at_call 103; refine (tRead_any l _ hl).mono ?_; rintro e w1 ⟨X, rfl, h⟩; replace h := hide h)
  go_ret2
  exact ⟨X, rfl, h.out⟩
end Go.Proofs.YtcclepohmhdpbaaGreatDoor

/- LISTS THAT THE DOCUMENT READS, as they grow. -/
namespace Go.Proofs.YtcclepohmhdpbaaGreatDoor
set_option linter.all false
open Go.RowKit Go.Deep

theorem el_multi : Elem Tryz.prog 50 33 (.slice none 0 0) 1 24 := ⟨by kernel_rfl, info_rings, rfl, by omega, by omega⟩

theorem SD.keep {w w' : World} {b : Nat} {l : List UInt8} {bad wide : Bool} {base : Nat} {e : TypeId} {size : Nat} {v : Value} {n : Nat} {xs : List Value} (h : SD w b l bad wide) (ho : w.ownsRow base e size v n xs) (he : e ≠ 102) (hg : w.grownBy w' v.ownBlock) : SD w' b l bad wide :=
  VRow.grown h hg (own_row_ne ho h he)
theorem SD.alloc {w : World} {b : Nat} {l : List UInt8} {bad wide : Bool} (h : SD w b l bad wide) (o : Obj) : SD (w.alloc o) b l bad wide := VRow.alloc h o

/-- A list of the document's that is being read: rings. -/
structure Q1 (w wr : World) (b : Nat) (v : Value) (r : Ring) (l : List UInt8) (bad wide : Bool) : Prop where
  own : wr.ownsRow w.heap.size 32 2 v r.length (flat r)
  sd : SD wr b l bad wide
  fr : Fr (· = b) w wr
  len : r.length ≤ 6001
  rest : l.length ≤ 6000
  sum : bad = false → r.length + l.length ≤ 6000

theorem Q1.step {w wr w4 w5 : World} {b : Nat} {v : Value} {r : Ring} {l l4 : List UInt8} {wide b4 o4 : Bool} {x y : Int} {g cap : Nat} (h : Q1 w wr b v r l false wide) (h4 : SD w4 b l4 b4 o4) (u : Fr (· = b) wr w4) (hs : b4 = false → l4.length + 1 ≤ l.length) (hl4 : l4.length ≤ 6000)
    (hown : w5.ownsRow w.heap.size 32 2 (.slice (some ⟨g, 0, none⟩) (r.length + 1) cap) (r.length + 1) (flat r ++ [.int .i64 x, .int .i64 y])) (hg : (w4.alloc (.cells #[.int .i64 x, .int .i64 y] 32)).grownBy w5 v.ownBlock) :
    Q1 w w5 b (.slice (some ⟨g, 0, none⟩) (r.length + 1) cap) (r ++ [(x, y)]) l4 b4 o4 := by
  have hb := h.sd
  have o4' : w4.ownsRow w.heap.size 32 2 v r.length (flat r) := own_fr h.own u fun g hg e => own_row_ne h.own hb (by decide) (e ▸ hg)
  have oA := o4'.alloc (.cells #[.int .i64 x, .int .i64 y] 32)
  refine ⟨?_, (h4.alloc _).keep oA (by decide) hg, ((h.fr.trans u).alloc _).grown hg fun k hk => .inr (own_lt h.own hk).1, by simp; have := h.sum rfl; omega, hl4, fun e => ?_⟩
  · rw [flat_append, List.length_append]; exact hown
  · have := hs e
    have := h.sum rfl
    simp; omega

/-- Lists of lists. -/
structure Q2 (w wr : World) (b : Nat) (v : Value) (rs : List L1) (l : List UInt8) (bad wide : Bool) : Prop where
  own : wr.ownsRow w.heap.size 30 1 v rs.length (rs.map L1.v)
  sub : ∀ y ∈ rs, y.ok wr
  sd : SD wr b l bad wide
  fr : Fr (· = b) w wr
  len : rs.length ≤ 6001
  rest : l.length ≤ 6000
  sum : bad = false → rs.length + l.length ≤ 6000

theorem Q2.step {w wr w4 w5 : World} {b : Nat} {v : Value} {rs : List L1} {l l4 : List UInt8} {wide b4 o4 : Bool} {xa : Option Addr} {xn xc : Nat} {xr : Ring} {g cap : Nat} (h : Q2 w wr b v rs l false wide) (h4 : SD w4 b l4 b4 o4) (u : Fr (· = b) wr w4) (hx : L1.ok w4 ⟨.slice xa xn xc, xr⟩) (hs : b4 = false → l4.length + 1 ≤ l.length) (hl4 : l4.length ≤ 6000)
    (hown : w5.ownsRow w.heap.size 30 1 (.slice (some ⟨g, 0, none⟩) (rs.length + 1) cap) (rs.length + 1) (rs.map L1.v ++ [.slice xa xn xc])) (hg : (w4.alloc (.cells #[.slice xa xn xc] 30)).grownBy w5 v.ownBlock) :
    Q2 w w5 b (.slice (some ⟨g, 0, none⟩) (rs.length + 1) cap) (rs ++ [⟨.slice xa xn xc, xr⟩]) l4 b4 o4 := by
  have hb := h.sd
  have o4' : w4.ownsRow w.heap.size 30 1 v rs.length (rs.map L1.v) := own_fr h.own u fun g hg e => own_row_ne h.own hb (by decide) (e ▸ hg)
  have oA := o4'.alloc (.cells #[.slice xa xn xc] 30)
  have hA := (Up.refl w4).alloc (.cells #[.slice xa xn xc] 30)
  refine ⟨?_, fun y hy => ?_, (h4.alloc _).keep oA (by decide) hg, ((h.fr.trans u).alloc _).grown hg fun k hk => .inr (own_lt h.own hk).1, by simp; have := h.sum rfl; omega, hl4, fun e => ?_⟩
  · rw [List.map_append, List.length_append]; exact hown
  · rcases List.mem_append.1 hy with hy | hy
    · exact (((h.sub y hy).fr u fun b hb' e => (h.sub y hy).row_ne hb (by decide) (e ▸ hb')).up hA).grown oA (by decide) hg
    · simp at hy; subst hy
      exact (hx.up hA).grown oA (by decide) hg
  · have := hs e
    have := h.sum rfl
    simp; omega

structure Q3 (w wr : World) (b : Nat) (v : Value) (ps : List L2) (l : List UInt8) (bad wide : Bool) : Prop where
  own : wr.ownsRow w.heap.size 33 1 v ps.length (ps.map L2.v)
  sub : ∀ y ∈ ps, y.ok wr
  sd : SD wr b l bad wide
  fr : Fr (· = b) w wr
  len : ps.length ≤ 6001
  rest : l.length ≤ 6000
  sum : bad = false → ps.length + l.length ≤ 6000

theorem Q3.step {w wr w4 w5 : World} {b : Nat} {v : Value} {ps : List L2} {l l4 : List UInt8} {wide b4 o4 : Bool} {xa : Option Addr} {xn xc : Nat} {xr : List L1} {g cap : Nat} (h : Q3 w wr b v ps l false wide) (h4 : SD w4 b l4 b4 o4) (u : Fr (· = b) wr w4) (hx : L2.ok w4 ⟨.slice xa xn xc, xr⟩) (hs : b4 = false → l4.length + 1 ≤ l.length) (hl4 : l4.length ≤ 6000)
    (hown : w5.ownsRow w.heap.size 33 1 (.slice (some ⟨g, 0, none⟩) (ps.length + 1) cap) (ps.length + 1) (ps.map L2.v ++ [.slice xa xn xc])) (hg : (w4.alloc (.cells #[.slice xa xn xc] 33)).grownBy w5 v.ownBlock) :
    Q3 w w5 b (.slice (some ⟨g, 0, none⟩) (ps.length + 1) cap) (ps ++ [⟨.slice xa xn xc, xr⟩]) l4 b4 o4 := by
  have hb := h.sd
  have o4' : w4.ownsRow w.heap.size 33 1 v ps.length (ps.map L2.v) := own_fr h.own u fun g hg e => own_row_ne h.own hb (by decide) (e ▸ hg)
  have oA := o4'.alloc (.cells #[.slice xa xn xc] 33)
  have hA := (Up.refl w4).alloc (.cells #[.slice xa xn xc] 33)
  refine ⟨?_, fun y hy => ?_, (h4.alloc _).keep oA (by decide) hg, ((h.fr.trans u).alloc _).grown hg fun k hk => .inr (own_lt h.own hk).1, by simp; have := h.sum rfl; omega, hl4, fun e => ?_⟩
  · rw [List.map_append, List.length_append]; exact hown
  · rcases List.mem_append.1 hy with hy | hy
    · exact (((h.sub y hy).fr u fun b hb' e => (h.sub y hy).row_ne hb (by decide) (by decide) (e ▸ hb')).up hA).grown oA (by decide) (by decide) hg
    · simp at hy; subst hy
      exact (hx.up hA).grown oA (by decide) (by decide) hg
  · have := hs e
    have := h.sum rfl
    simp; omega

theorem Q1.start {w : World} {b : Nat} {l : List UInt8} {bad wide : Bool} (h : SD w b l bad wide) (hl : l.length ≤ 6000) : Q1 w w b (.slice none 0 0) [] l bad wide := ⟨World.ownsRow_nil _ _ _ _, h, Fr.refl _ _, by simp, hl, fun _ => by simpa using hl⟩
theorem Q2.start {w : World} {b : Nat} {l : List UInt8} {bad wide : Bool} (h : SD w b l bad wide) (hl : l.length ≤ 6000) : Q2 w w b (.slice none 0 0) [] l bad wide := ⟨World.ownsRow_nil _ _ _ _, by simp, h, Fr.refl _ _, by simp, hl, fun _ => by simpa using hl⟩
theorem Q3.start {w : World} {b : Nat} {l : List UInt8} {bad wide : Bool} (h : SD w b l bad wide) (hl : l.length ≤ 6000) : Q3 w w b (.slice none 0 0) [] l bad wide := ⟨World.ownsRow_nil _ _ _ _, by simp, h, Fr.refl _ _, by simp, hl, fun _ => by simpa using hl⟩

theorem Q1.sd' {w wr w' : World} {b : Nat} {v : Value} {r : Ring} {l l' : List UInt8} {bad wide bad' wide' : Bool} (h : Q1 w wr b v r l bad wide) (h4 : SD w' b l' bad' wide') (u : Fr (· = b) wr w') (hl : l'.length ≤ l.length) (hb : bad' = false → bad = false) : Q1 w w' b v r l' bad' wide' :=
  ⟨own_fr h.own u fun g hg e => own_row_ne h.own h.sd (by decide) (e ▸ hg), h4, h.fr.trans u, h.len, by have := h.rest; omega, fun e => by have := h.sum (hb e); omega⟩
theorem Q2.sd' {w wr w' : World} {b : Nat} {v : Value} {r : List L1} {l l' : List UInt8} {bad wide bad' wide' : Bool} (h : Q2 w wr b v r l bad wide) (h4 : SD w' b l' bad' wide') (u : Fr (· = b) wr w') (hl : l'.length ≤ l.length) (hb : bad' = false → bad = false) : Q2 w w' b v r l' bad' wide' :=
  ⟨own_fr h.own u fun g hg e => own_row_ne h.own h.sd (by decide) (e ▸ hg), fun y hy => (h.sub y hy).fr u fun b hb' e => (h.sub y hy).row_ne h.sd (by decide) (e ▸ hb'), h4, h.fr.trans u, h.len, by have := h.rest; omega, fun e => by have := h.sum (hb e); omega⟩
theorem Q3.sd' {w wr w' : World} {b : Nat} {v : Value} {r : List L2} {l l' : List UInt8} {bad wide bad' wide' : Bool} (h : Q3 w wr b v r l bad wide) (h4 : SD w' b l' bad' wide') (u : Fr (· = b) wr w') (hl : l'.length ≤ l.length) (hb : bad' = false → bad = false) : Q3 w w' b v r l' bad' wide' :=
  ⟨own_fr h.own u fun g hg e => own_row_ne h.own h.sd (by decide) (e ▸ hg), fun y hy => (h.sub y hy).fr u fun b hb' e => (h.sub y hy).row_ne h.sd (by decide) (by decide) (e ▸ hb'), h4, h.fr.trans u, h.len, by have := h.rest; omega, fun e => by have := h.sum (hb e); omega⟩

theorem Q1.step' {w wr w4 w5 : World} {b : Nat} {v : Value} {r : Ring} {l l4 : List UInt8} {bad wide b4 o4 : Bool} {x y : Int} {g cap : Nat} (h : Q1 w wr b v r l bad wide) (h6 : r.length ≤ 6000) (h4 : SD w4 b l4 b4 o4) (u : Fr (· = b) wr w4) (hs : b4 = false → r.length + 1 + l4.length ≤ 6000) (hl4 : l4.length ≤ 6000)
    (hown : w5.ownsRow w.heap.size 32 2 (.slice (some ⟨g, 0, none⟩) (r.length + 1) cap) (r.length + 1) (flat r ++ [.int .i64 x, .int .i64 y])) (hg : (w4.alloc (.cells #[.int .i64 x, .int .i64 y] 32)).grownBy w5 v.ownBlock) :
    Q1 w w5 b (.slice (some ⟨g, 0, none⟩) (r.length + 1) cap) (r ++ [(x, y)]) l4 b4 o4 := by
  have hb := h.sd
  have o4' : w4.ownsRow w.heap.size 32 2 v r.length (flat r) := own_fr h.own u fun g hg e => own_row_ne h.own hb (by decide) (e ▸ hg)
  have oA := o4'.alloc (.cells #[.int .i64 x, .int .i64 y] 32)
  refine ⟨?_, (h4.alloc _).keep oA (by decide) hg, ((h.fr.trans u).alloc _).grown hg fun k hk => .inr (own_lt h.own hk).1, by simp; omega, hl4, fun e => ?_⟩
  · rw [flat_append, List.length_append]; exact hown
  · have := hs e
    simp; omega

theorem Q2.step' {w wr w4 w5 : World} {b : Nat} {v : Value} {rs : List L1} {l l4 : List UInt8} {bad wide b4 o4 : Bool} {xa : Option Addr} {xn xc : Nat} {xr : Ring} {g cap : Nat} (h : Q2 w wr b v rs l bad wide) (h6 : rs.length ≤ 6000) (h4 : SD w4 b l4 b4 o4) (u : Fr (· = b) wr w4) (hx : L1.ok w4 ⟨.slice xa xn xc, xr⟩) (hs : b4 = false → rs.length + 1 + l4.length ≤ 6000) (hl4 : l4.length ≤ 6000)
    (hown : w5.ownsRow w.heap.size 30 1 (.slice (some ⟨g, 0, none⟩) (rs.length + 1) cap) (rs.length + 1) (rs.map L1.v ++ [.slice xa xn xc])) (hg : (w4.alloc (.cells #[.slice xa xn xc] 30)).grownBy w5 v.ownBlock) :
    Q2 w w5 b (.slice (some ⟨g, 0, none⟩) (rs.length + 1) cap) (rs ++ [⟨.slice xa xn xc, xr⟩]) l4 b4 o4 := by
  have hb := h.sd
  have o4' : w4.ownsRow w.heap.size 30 1 v rs.length (rs.map L1.v) := own_fr h.own u fun g hg e => own_row_ne h.own hb (by decide) (e ▸ hg)
  have oA := o4'.alloc (.cells #[.slice xa xn xc] 30)
  have hA := (Up.refl w4).alloc (.cells #[.slice xa xn xc] 30)
  refine ⟨?_, fun y hy => ?_, (h4.alloc _).keep oA (by decide) hg, ((h.fr.trans u).alloc _).grown hg fun k hk => .inr (own_lt h.own hk).1, by simp; omega, hl4, fun e => ?_⟩
  · rw [List.map_append, List.length_append]; exact hown
  · rcases List.mem_append.1 hy with hy | hy
    · exact (((h.sub y hy).fr u fun b hb' e => (h.sub y hy).row_ne hb (by decide) (e ▸ hb')).up hA).grown oA (by decide) hg
    · simp at hy; subst hy
      exact (hx.up hA).grown oA (by decide) hg
  · have := hs e
    simp; omega

theorem Q3.step' {w wr w4 w5 : World} {b : Nat} {v : Value} {ps : List L2} {l l4 : List UInt8} {bad wide b4 o4 : Bool} {xa : Option Addr} {xn xc : Nat} {xr : List L1} {g cap : Nat} (h : Q3 w wr b v ps l bad wide) (h6 : ps.length ≤ 6000) (h4 : SD w4 b l4 b4 o4) (u : Fr (· = b) wr w4) (hx : L2.ok w4 ⟨.slice xa xn xc, xr⟩) (hs : b4 = false → ps.length + 1 + l4.length ≤ 6000) (hl4 : l4.length ≤ 6000)
    (hown : w5.ownsRow w.heap.size 33 1 (.slice (some ⟨g, 0, none⟩) (ps.length + 1) cap) (ps.length + 1) (ps.map L2.v ++ [.slice xa xn xc])) (hg : (w4.alloc (.cells #[.slice xa xn xc] 33)).grownBy w5 v.ownBlock) :
    Q3 w w5 b (.slice (some ⟨g, 0, none⟩) (ps.length + 1) cap) (ps ++ [⟨.slice xa xn xc, xr⟩]) l4 b4 o4 := by
  have hb := h.sd
  have o4' : w4.ownsRow w.heap.size 33 1 v ps.length (ps.map L2.v) := own_fr h.own u fun g hg e => own_row_ne h.own hb (by decide) (e ▸ hg)
  have oA := o4'.alloc (.cells #[.slice xa xn xc] 33)
  have hA := (Up.refl w4).alloc (.cells #[.slice xa xn xc] 33)
  refine ⟨?_, fun y hy => ?_, (h4.alloc _).keep oA (by decide) hg, ((h.fr.trans u).alloc _).grown hg fun k hk => .inr (own_lt h.own hk).1, by simp; omega, hl4, fun e => ?_⟩
  · rw [List.map_append, List.length_append]; exact hown
  · rcases List.mem_append.1 hy with hy | hy
    · exact (((h.sub y hy).fr u fun b hb' e => (h.sub y hy).row_ne hb (by decide) (by decide) (e ▸ hb')).up hA).grown oA (by decide) (by decide) hg
    · simp at hy; subst hy
      exact (hx.up hA).grown oA (by decide) (by decide) hg
  · have := hs e
    simp; omega
end Go.Proofs.YtcclepohmhdpbaaGreatDoor

/- THE DOCUMENT's TEXTS, READ: points. -/
namespace Go.Proofs.YtcclepohmhdpbaaGreatDoor
set_option linter.all false
open Go.RowKit Go.Deep
attribute [local go_sem ↓] Go.wp_at_zero Go.wp_at_succ


def dPtsPost (l : List UInt8) (bad0 wide0 : Bool) (b : Nat) (w : World) (e : Ending) (w' : World) : Prop :=
  ∃ (x : L1) (l' : List UInt8) (bad wide : Bool), e = .returned x.v ∧ x.ok w' ∧ SD w' b l' bad wide ∧ Fr (· = b) w w' ∧ (if bad0 = true then none else Wt.ring l wide0) = (if bad = true then none else some (x.r, l', wide)) ∧ l'.length ≤ 6000

set_option maxRecDepth 100000 in
set_option maxHeartbeats 4000000 in
theorem dPts_any (l : List UInt8) (bad0 wide0 : Bool) (b : Nat) (w : World) (hr : SD w b l bad0 wide0) (hl : l.length ≤ 6000) :
    Calls Tryz.prog 150 #[.pointer (some ⟨b, 0, none⟩)] w (dPtsPost l bad0 wide0 b w) := by
  have HR := hide hr
  clear hr
  go_enter Tryz.func150, Tryz.ntmps150
  go_wp2_with fail
  refine (sign_any 40 l bad0 wide0 b _ HR.out).mono ?_
  rintro e w1 ⟨rfl, h1, u1⟩
  have HT := hide (Wt.begin_ Wt.point l wide0 bad0)
  have hl1 : (Tx.aft [40] (Tx.bare l)).length ≤ l.length := Nat.le_trans (Tx.aft_le _ _) (Tx.bare_le l)
  obtain ⟨l1, hl1e⟩ : ∃ l1, l1 = Tx.aft [40] (Tx.bare l) := ⟨_, rfl⟩
  obtain ⟨b1, hb1e⟩ : ∃ b1, b1 = (bad0 || !Tx.pre [40] (Tx.bare l)) := ⟨_, rfl⟩
  rw [← hl1e, ← hb1e] at h1 HT
  have hl1b : (Tx.aft [40] (Tx.bare l)).length ≤ (Tx.bare l).length := Tx.aft_le _ _
  rw [← hl1e] at hl1 hl1b
  have HQ := hide (Q1.start h1 (Nat.le_trans hl1 hl))
  have HF1 := hide u1
  clear h1 u1 hl1e hb1e
  go_wp2_with fail
  go_loopw [3] (fun v wr => ∃ (k : Nat) (r : List Pnt) (l' : List UInt8) (bad wide : Bool) (u : Value), u = v ∧ l'.length ≤ k ∧ Hid (Q1 w1 wr b u r l' bad wide) ∧ Hid (bad = true → r = []) ∧ Hid ((if bad0 = true then none else Wt.ring l wide0) = if bad = true then none else Bn.pre r (Wt.items Wt.point (k + 1) l' wide))) (fun v _ => 7000 - lenS v)
  case atStart => exact ⟨(Tx.bare l).length, [], l1, b1, wide0, _, rfl, hl1b, HQ, fun _ => rfl, HT⟩
  case round =>
    obtain ⟨wo, hw⟩ : ∃ x, x = wr := ⟨_, rfl⟩
    subst hw
    obtain ⟨k, r, l2, bad, wide, v, rfl, hk, HI, HB, HT2⟩ := hrel
    have h6 : r.length ≤ 6000 := by
      cases bad
      · have := HI.out.sum rfl; omega
      · rw [HB.out rfl]; simp
    have hl2 := HI.out.rest
    obtain ⟨va, vn, vc, rfl⟩ : ∃ a n c, v = .slice a n c := own_shape HI.out.own
    obtain rfl : vn = r.length := by obtain ⟨a, c, e⟩ := own_len HI.out.own; cases e; rfl
    go_wp2_with fail
    refine (dcoord_any true l2 bad wide b _ HI.out.sd hl2).mono ?_
    rintro e w2 ⟨x, l3, b2, o2, rfl, h2, u2, p2, hl3⟩
    obtain ⟨c0, c1, c2, f0, f1, f2⟩ := h2.facts
    replace h2 := hide h2
    replace u2 := hide u2
    replace p2 := hide p2
    obtain ⟨e0, e1, e2, e3, e4, e5⟩ := bs_tells l3
    clear e2 e3 e5
    go_upto_region 4 with fail
    go_cut [24] (fun s wc => s = .bool (!Wt.gap l3) ∧ wc = w2)
    case first =>
      cases l3 with
      | nil =>
        go_wp2_with (go_at_call 110; fail)
        go_meet
        case rel => exact ⟨rfl, rfl⟩
      | cons c t =>
        have e6 := Tx.at_zero c t
        have HGG : Hid (Wt.gap (c :: t) = Tx.blank c.toNat) := rfl
        go_wp2_with (go_at_call 110; refine (isBlank_any _ _).mono ?_; rintro e w' ⟨rfl, hw⟩; replace hw := hw.symm; subst hw)
        go_meet
        case rel => exact ⟨by rw [HGG.out], rfl⟩
    case rest =>
      obtain ⟨rfl, rfl⟩ := hcut
      clear e0 e1 e4
      obtain ⟨gp, hgp⟩ : ∃ gp, gp = Wt.gap l3 := ⟨_, rfl⟩
      rw [← hgp]
      have HGP := hide hgp
      have hl3' : l3.length ≤ 6000 := by omega
      clear hgp
      cases gp
      · have h3 : Hid (SD (wc.setCell ⟨b, 1, none⟩ (.bool true)) b l3 (b2 || !Wt.gap l3) o2) := by
          rw [← HGP.out]
          have := h2.out.bad true
          simpa [Hid] using this
        have u3 : Hid (Fr (· = b) wo (wc.setCell ⟨b, 1, none⟩ (.bool true))) := u2.out.setCell (p := ⟨b, 1, none⟩) rfl _
        go_wp2_with fail
        refine (dcoord_any true l3 _ o2 b _ h3.out hl3').mono ?_
        rintro e w4 ⟨y, l4, b4, o4, rfl, h4, u4, p4, hl4⟩
        replace hl4 : l4.length ≤ 6000 := by omega
        have HP := hide (Wt.point_of p2.out p4)
        have HF : Hid (Fr (· = b) wo w4) := u3.out.trans u4
        replace h4 := hide h4
        have HO : Hid (w4.ownsRow w1.heap.size 32 2 (.slice va r.length vc) r.length (flat r)) := own_fr HI.out.own HF.out fun g hg e => own_row_ne HI.out.own HI.out.sd (by decide) (e ▸ hg)
        clear u4 p4 c0 c1 c2 f0 f1 f2
        have HOA := hide (HO.out.alloc (.cells #[.int .i64 x, .int .i64 y] 32))
        have hrb : Hid (r.length ≤ 1073741824) := by show _ ≤ _; omega
        have hsz := hide (HI.out.fr.trans HF.out).size
        have HLT : Hid (b4 = false → r.length + 1 + l4.length ≤ 6000) := fun e => by
          have h7 := HP.out.2 e
          cases bad
          · have := HI.out.sum rfl; omega
          · have := HP.out.1
            rw [e] at this
            simp at this
        go_wp2_with (first | (at_builtin; refine wpList_app el_pt rfl (.tmp 30) (.tmp 34) rfl w1.heap.size _ _ _ (by rfl) HOA.out w4.heap.size [.int .i64 x, .int .i64 y] (by rfl) rfl (heap_alloc_new w4 _) (by intro u hu; simp at hu; rcases hu with rfl | rfl <;> rfl) hrb.out (by simp; have := hsz.out; omega) ?_; intro g cap w5 hown5 hg5 hat5 hlt5; have hq5 := hide (HI.out.step' h6 h4.out HF.out HLT.out hl4 hown5 hg5); clear hat5 hlt5 hown5 hg5) | (go_at_call 113; fail))
        have HG := Wt.go_on HT2.out HP.out.1
        obtain ⟨hg1, hg2⟩ := HG
        replace hg1 := hide hg1
        replace hg2 := hide hg2
        refine (comes_any 44 l4 b4 o4 b _ hq5.out.sd).mono ?_
        rintro e w6 ⟨rfl, hw6⟩
        replace hw6 := hw6.symm
        subst hw6
        cases hc : (!b4 && Tx.pre [44] (Tx.bare l4))
        · have HE := hide (hg2.out hc)
          clear hg1 hg2 hc
          go_wp2_with fail
          refine (sign_any 41 l4 b4 o4 b _ hq5.out.sd).mono ?_
          rintro e w7 ⟨rfl, h7, u7⟩
          have hq7 := hide (hq5.out.sd' h7 u7 (Nat.le_trans (Tx.aft_le _ _) (Tx.bare_le l4)) (fun e => by cases b4 <;> simp_all))
          clear h7 u7
          go_wp2
          go_ret
          exact ⟨⟨_, _⟩, _, _, _, rfl, own_base hq7.out.own (Nat.zero_le _), hq7.out.sd, HF1.out.trans hq7.out.fr, HE.out, Nat.le_trans (Nat.le_trans (Tx.aft_le _ _) (Tx.bare_le l4)) hl4⟩
        · have HE := hide (hg1.out hc)
          have hcc : b4 = false ∧ Tx.pre [44] (Tx.bare l4) = true := by cases b4 <;> simp_all
          obtain ⟨hc1, hc2⟩ := hcc
          subst hc1
          have hal := Wt.aft_len hc2
          have hbl := Tx.bare_le l4
          have h8 := HP.out.2 rfl
          clear hg1 hg2 hc
          go_wp2_with fail
          refine (sign_any 44 l4 false o4 b _ hq5.out.sd).mono ?_
          rintro e w7 ⟨rfl, h7, u7⟩
          rw [hc2] at h7
          have hq7 := hide (hq5.out.sd' h7 u7 (by omega) (fun _ => rfl))
          obtain ⟨k', rfl⟩ : ∃ k', k = k' + 1 := ⟨k - 1, by omega⟩
          clear h7 u7 hc2
          go_wp2
          go_roundw
          case rel => exact ⟨k', r ++ [(x, y)], _, _, _, _, rfl, by omega, hq7, (fun e => by cases e), by exact HE⟩
          case measure => simp [lenS]; omega
      · have h3 : Hid (SD wc b l3 (b2 || !Wt.gap l3) o2) := by
          rw [← HGP.out]
          have := h2.out
          simpa [Hid] using this
        go_wp2_with fail
        refine (dcoord_any true l3 _ o2 b _ h3.out hl3').mono ?_
        rintro e w4 ⟨y, l4, b4, o4, rfl, h4, u4, p4, hl4⟩
        replace hl4 : l4.length ≤ 6000 := by omega
        have HP := hide (Wt.point_of p2.out p4)
        have HF : Hid (Fr (· = b) wo w4) := u2.out.trans u4
        replace h4 := hide h4
        have HO : Hid (w4.ownsRow w1.heap.size 32 2 (.slice va r.length vc) r.length (flat r)) := own_fr HI.out.own HF.out fun g hg e => own_row_ne HI.out.own HI.out.sd (by decide) (e ▸ hg)
        clear u4 p4 c0 c1 c2 f0 f1 f2
        have HOA := hide (HO.out.alloc (.cells #[.int .i64 x, .int .i64 y] 32))
        have hrb : Hid (r.length ≤ 1073741824) := by show _ ≤ _; omega
        have hsz := hide (HI.out.fr.trans HF.out).size
        have HLT : Hid (b4 = false → r.length + 1 + l4.length ≤ 6000) := fun e => by
          have h7 := HP.out.2 e
          cases bad
          · have := HI.out.sum rfl; omega
          · have := HP.out.1
            rw [e] at this
            simp at this
        go_wp2_with (first | (at_builtin; refine wpList_app el_pt rfl (.tmp 30) (.tmp 34) rfl w1.heap.size _ _ _ (by rfl) HOA.out w4.heap.size [.int .i64 x, .int .i64 y] (by rfl) rfl (heap_alloc_new w4 _) (by intro u hu; simp at hu; rcases hu with rfl | rfl <;> rfl) hrb.out (by simp; have := hsz.out; omega) ?_; intro g cap w5 hown5 hg5 hat5 hlt5; have hq5 := hide (HI.out.step' h6 h4.out HF.out HLT.out hl4 hown5 hg5); clear hat5 hlt5 hown5 hg5) | (go_at_call 113; fail))
        have HG := Wt.go_on HT2.out HP.out.1
        obtain ⟨hg1, hg2⟩ := HG
        replace hg1 := hide hg1
        replace hg2 := hide hg2
        refine (comes_any 44 l4 b4 o4 b _ hq5.out.sd).mono ?_
        rintro e w6 ⟨rfl, hw6⟩
        replace hw6 := hw6.symm
        subst hw6
        cases hc : (!b4 && Tx.pre [44] (Tx.bare l4))
        · have HE := hide (hg2.out hc)
          clear hg1 hg2 hc
          go_wp2_with fail
          refine (sign_any 41 l4 b4 o4 b _ hq5.out.sd).mono ?_
          rintro e w7 ⟨rfl, h7, u7⟩
          have hq7 := hide (hq5.out.sd' h7 u7 (Nat.le_trans (Tx.aft_le _ _) (Tx.bare_le l4)) (fun e => by cases b4 <;> simp_all))
          clear h7 u7
          go_wp2
          go_ret
          exact ⟨⟨_, _⟩, _, _, _, rfl, own_base hq7.out.own (Nat.zero_le _), hq7.out.sd, HF1.out.trans hq7.out.fr, HE.out, Nat.le_trans (Nat.le_trans (Tx.aft_le _ _) (Tx.bare_le l4)) hl4⟩
        · have HE := hide (hg1.out hc)
          have hcc : b4 = false ∧ Tx.pre [44] (Tx.bare l4) = true := by cases b4 <;> simp_all
          obtain ⟨hc1, hc2⟩ := hcc
          subst hc1
          have hal := Wt.aft_len hc2
          have hbl := Tx.bare_le l4
          have h8 := HP.out.2 rfl
          clear hg1 hg2 hc
          go_wp2_with fail
          refine (sign_any 44 l4 false o4 b _ hq5.out.sd).mono ?_
          rintro e w7 ⟨rfl, h7, u7⟩
          rw [hc2] at h7
          have hq7 := hide (hq5.out.sd' h7 u7 (by omega) (fun _ => rfl))
          obtain ⟨k', rfl⟩ : ∃ k', k = k' + 1 := ⟨k - 1, by omega⟩
          clear h7 u7 hc2
          go_wp2
          go_roundw
          case rel => exact ⟨k', r ++ [(x, y)], _, _, _, _, rfl, by omega, hq7, (fun e => by cases e), by exact HE⟩
          case measure => simp [lenS]; omega
end Go.Proofs.YtcclepohmhdpbaaGreatDoor
