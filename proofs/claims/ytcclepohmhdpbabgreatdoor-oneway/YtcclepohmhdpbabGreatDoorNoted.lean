import Derived.Test.YtcclepohmhdpbabGreatDoorVdI
import Derived.WalkKit
import Derived.WalkSpells
import Derived.Deep.OwnRows
import Derived.Deep.Draws
import Derived.Deep.QuietTactic
import Derived.BigQuiet
import Derived.Deep.LoopGhost
import Derived.Test.YtcclepohmhdpbabGreatDoorProg
import Derived.WalkLawsBesides
import Derived.Laws.CopyOwn
import Derived.Deep.DeepCutAuto
import Derived.Laws.Bits64b
import Derived.Lib.Strings
import Derived.Deep.AppendLies
import Derived.Deep.RegionLaw
import Derived.Deep.RegionHeld3
import Derived.Deep.DrawnRows
namespace Go.Proofs.YtcclepohmhdpbabGreatDoor
set_option linter.all false
open Go.RowKit
theorem hide {p : Prop} (h : p) : Hid p := h
abbrev Up (w w' : World) : Prop := Below w.heap.size w w'
theorem Up.refl (w : World) : Up w w := Below.refl _ _
theorem Up.trans {a b c : World} (h : Up a b) (k : Up b c) : Up a c := Below.trans h (Below.mono k h.size)
theorem Up.alloc {a w : World} (h : Up a w) (o : Obj) : Up a (w.alloc o) := Below.alloc h h.size o
theorem Up.drew {a w : World} (h : Up a w) : Up a w.drew := Below.drew h
theorem Up.drewN {a w : World} (h : Up a w) (n : Nat) : Up a (w.drewN n) := by
 induction n with
 | zero => exact h
 | succ n ih => exact Below.drew ih
theorem Up.setCell {a w : World} (h : Up a w) {p : Addr} (hp : a.heap.size ≤ p.block) (u : Value) : Up a (w.setCell p u) := Below.setCell h hp u
theorem lt_of_cell {w : World} {a : Addr} {v : Value} (h : w.cell? a = some v) : a.block < w.heap.size := by
 unfold World.cell? at h
 rcases Nat.lt_or_ge a.block w.heap.size with g | g
 ·exact g
 ·rw [Array.getElem?_eq_none g] at h; simp at h
theorem Up.cell {w w' : World} (h : Up w w') {a : Addr} {v : Value} (hc : w.cell? a = some v) : w'.cell? a = some v := by
 rw [Below.cell h (lt_of_cell hc)]; exact hc
def Dr (w w' : World) : Prop := ∃ n, w' = w.drewN n
theorem Dr.refl (w : World) : Dr w w := ⟨0, rfl⟩
theorem Dr.trans {a b c : World} (h : Dr a b) (k : Dr b c) : Dr a c := by
 obtain ⟨n, rfl⟩ := h
 obtain ⟨m, rfl⟩ := k
 exact ⟨n + m, World.drewN_drewN _ _ _⟩
theorem Dr.n {a b : World} (h : Dr a b) (n : Nat) : Dr a (b.drewN n) := h.trans ⟨n, rfl⟩
theorem Dr.up {a b : World} (h : Dr a b) : Up a b := by
 obtain ⟨n, rfl⟩ := h
 exact (Up.refl _).drewN n
def Rd1 (w : World) (v : Value) (r : Ring) : Prop :=
 ∃ ao cap, v = .slice ao r.length cap ∧ ∀ i p, r[i]? = some p → ∃ b, ao = some ⟨b, 0, none⟩ ∧ w.cell? ⟨b, i * 2, none⟩ = some (.int .i64 p.1) ∧ w.cell? ⟨b, i * 2 + 1, none⟩ = some (.int .i64 p.2)
def Rd2 (w : World) (v : Value) (l : Poly) : Prop :=
 ∃ ao cap, v = .slice ao l.length cap ∧ ∀ i r, l[i]? = some r → ∃ b u, ao = some ⟨b, 0, none⟩ ∧ w.cell? ⟨b, i, none⟩ = some u ∧ Rd1 w u r
def Rd3 (w : World) (v : Value) (m : Mult) : Prop :=
 ∃ ao cap, v = .slice ao m.length cap ∧ ∀ i l, m[i]? = some l → ∃ b u, ao = some ⟨b, 0, none⟩ ∧ w.cell? ⟨b, i, none⟩ = some u ∧ Rd2 w u l
theorem Rd1.up {w w' : World} {v : Value} {r : Ring} (h : Rd1 w v r) (k : Up w w') : Rd1 w' v r := by
 obtain ⟨ao, cap, e, h⟩ := h
 exact ⟨ao, cap, e, fun i p hp => by obtain ⟨b, e1, e2, e3⟩ := h i p hp; exact ⟨b, e1, k.cell e2, k.cell e3⟩⟩
theorem Rd2.up {w w' : World} {v : Value} {l : Poly} (h : Rd2 w v l) (k : Up w w') : Rd2 w' v l := by
 obtain ⟨ao, cap, e, h⟩ := h
 exact ⟨ao, cap, e, fun i p hp => by obtain ⟨b, u, e1, e2, e3⟩ := h i p hp; exact ⟨b, u, e1, k.cell e2, e3.up k⟩⟩
theorem Rd3.up {w w' : World} {v : Value} {m : Mult} (h : Rd3 w v m) (k : Up w w') : Rd3 w' v m := by
 obtain ⟨ao, cap, e, h⟩ := h
 exact ⟨ao, cap, e, fun i p hp => by obtain ⟨b, u, e1, e2, e3⟩ := h i p hp; exact ⟨b, u, e1, k.cell e2, e3.up k⟩⟩
end Go.Proofs.YtcclepohmhdpbabGreatDoor
namespace Go.Proofs.YtcclepohmhdpbabGreatDoor
set_option linter.all false
open Go.RowKit Go.Deep
set_option maxHeartbeats 400000 in
theorem isFar_any (x : Int) (w : World) :
  Calls Tryz.prog 74 #[.int .i64 x] w fun e w' => e = .returned (.bool (Pl.farC x)) ∧ w' = w := by
 have : Pl.farC x = (decide (32768 < x) || decide (x < -32768)) := rfl
 by_cases h1 : 32768 < x
 ·go_enter Tryz.func74, Tryz.ntmps74
  go_wp2
  go_ret
  exact ⟨by simp [Pl.farC, h1], rfl⟩
 ·by_cases h2 : x < -32768
  all_goals
   go_enter Tryz.func74, Tryz.ntmps74
   go_wp2
   go_ret
   exact ⟨by simp [Pl.farC, h1, h2], rfl⟩
theorem ret_bool {a b : Bool} (h : a = b) : Ending.returned (.bool a) = .returned (.bool b) := by rw [h]
set_option maxHeartbeats 1000000 in
theorem tooMany_any (v : Value) (m : Mult) (w : World) (hv : Rd3 w v m) (hb : Pl.Bd m) :
  Calls Tryz.prog 53 #[v] w fun e w' => e = .returned (.bool (Pl.many m)) ∧ w' = w := by
 obtain ⟨ao, cap, rfl, hm⟩ := hv
 have hlen := hb.len
 by_cases h8 : 8 < m.length
 ·go_enter Tryz.func53, Tryz.ntmps53
  go_wp2
  go_ret
  exact ⟨ret_bool (by simp [Pl.many, h8]), rfl⟩
 ·go_enter Tryz.func53, Tryz.ntmps53
  go_wp2
  go_loop [3, 4, 14] (fun rc pc i => ∃ k : Nat, k ≤ m.length ∧ i = .int .i64 k ∧ rc = .int .i64 (Pl.nR (m.take k) : Nat) ∧ pc = .int .i64 (Pl.nP (m.take k) : Nat) ∧ Pl.nR (m.take k) ≤ 12 ∧ Pl.nP (m.take k) ≤ 100) (fun _ _ i => m.length - (intOf i).toNat)
  case atStart => exact ⟨0, Nat.zero_le _, rfl, rfl, rfl, by simp [Pl.nR], by simp [Pl.nP]⟩
  case round =>
   obtain ⟨k, hk, rfl, rfl, rfl, h12, h100⟩ := hrel
   by_cases hlt : k < m.length
   ·obtain ⟨l, hl⟩ := Pl.some_of_lt hlt
    obtain ⟨b, u, rfl, hc, ao2, cap2, rfl, hr⟩ := hm k l hl
    have hll := hb.poly l (Pl.mem_of_some hl)
    have hrr := hb.ring l (Pl.mem_of_some hl)
    have eR : Hid (Pl.nR (m.take (k + 1)) = Pl.nR (m.take k) + l.length) := Pl.nR_take hl
    have eP : Hid (Pl.nP (m.take (k + 1)) = Pl.nP (m.take k) + Pl.nPl l) := Pl.nP_take hl
    have gR := Pl.nR_le m (k + 1)
    have gP := Pl.nP_le m (k + 1)
    have HL : Hid (m[k]? = some l) := hl
    have hm' := hide hm
    clear hl hm
    generalize hrc : Pl.nR (m.take k) = rc at *
    generalize hpc : Pl.nP (m.take k) = pc at *
    have Hrc : Hid (Pl.nR (m.take k) = rc) := hrc
    have Hpc : Hid (Pl.nP (m.take k) = pc) := hpc
    clear hrc hpc
    by_cases g12 : 12 < rc + l.length
    ·go_wp2
     go_ret
     exact ⟨ret_bool (by have := eR.out; simp [Pl.many]; omega), rfl⟩
    ·go_wp2
     go_loop [4, 26] (fun p j => ∃ q : Nat, q ≤ l.length ∧ j = .int .i64 q ∧ p = .int .i64 (pc + Pl.nPl (l.take q) : Nat) ∧ pc + Pl.nPl (l.take q) ≤ 100) (fun _ j => l.length - (intOf j).toNat)
     case atStart => exact ⟨0, Nat.zero_le _, rfl, by simp [Pl.nPl], by simpa [Pl.nPl] using h100⟩
     case round =>
      obtain ⟨q, hq, rfl, rfl, hq100⟩ := hrel
      by_cases hlq : q < l.length
      ·obtain ⟨r, hr1⟩ := Pl.some_of_lt hlq
       obtain ⟨b2, u2, rfl, hc2, ao3, cap3, rfl, hp⟩ := hr q r hr1
       have hrl := hrr r (Pl.mem_of_some hr1)
       have eQ : Hid (Pl.nPl (l.take (q + 1)) = Pl.nPl (l.take q) + r.length) := Pl.nPl_take hr1
       have gQ := Pl.nPl_le l (q + 1)
       have hr' := hide hr
       have hrr' := hide hrr
       clear hr hr1 hp hrr
       generalize hx : Pl.nPl (l.take q) = x at *
       have Hx : Hid (Pl.nPl (l.take q) = x) := hx
       clear hx
       by_cases g100 : 100 < pc + x + r.length
       ·go_wp2
        go_ret
        exact ⟨ret_bool (by have := eQ.out; have := eP.out; simp [Pl.many]; omega), rfl⟩
       ·go_wp2
        go_round
        case rel => exact ⟨q + 1, by omega, by go_num, by rw [eQ.out]; go_num, by rw [eQ.out]; omega⟩
        case measure => simp [intOf]; omega
      ·have : q = l.length := by omega
       subst this
       go_wp2
       go_round
       case rel => exact ⟨k + 1, by omega, by go_num, by rw [eR.out]; go_num, by rw [eP.out]; simp, by rw [eR.out]; omega, by rw [eP.out]; simpa using hq100⟩
       case measure => simp [intOf]; omega
   ·have : k = m.length := by omega
    subst this
    go_wp2
    go_ret
    exact ⟨ret_bool (by simp [Pl.many] at *; omega), rfl⟩
set_option maxHeartbeats 1000000 in
theorem misformed_any (v : Value) (l : Poly) (w : World) (hv : Rd2 w v l) (hb : l.length ≤ 1048576) (hb2 : ∀ r ∈ l, r.length ≤ 1048576) :
  Calls Tryz.prog 54 #[v] w fun e w' => e = .returned (.bool (Pl.badL l)) ∧ ∃ n, w' = w.drewN n := by
 obtain ⟨ao, cap, rfl, hm⟩ := hv
 by_cases h0 : l.length = 0
 ·go_enter Tryz.func54, Tryz.ntmps54
  go_wp2
  go_ret
  exact ⟨ret_bool (by simp [Pl.badL, List.length_eq_zero_iff.1 h0]), 0, rfl⟩
 ·have h0' : ((l.length : Int) == 0) = false := beq_eq_false_iff_ne.2 (by omega)
  go_enter Tryz.func54, Tryz.ntmps54
  go_wp2
  go_loopw [10] (fun i wr => ∃ k : Nat, k ≤ l.length ∧ i = .int .i64 k ∧ (l.take k).any Pl.badR = false ∧ ∃ n, wr = w.drewN n) (fun i _ => l.length - (intOf i).toNat)
  case atStart => exact ⟨0, Nat.zero_le _, rfl, rfl, 0, rfl⟩
  case round =>
   obtain ⟨k, hk, rfl, hbad, n, rfl⟩ := hrel
   by_cases hlt : k < l.length
   ·obtain ⟨r, hr⟩ := Pl.some_of_lt hlt
    obtain ⟨b, u, rfl, hc, ao2, cap2, rfl, hp⟩ := hm k r hr
    have hrl := hb2 r (Pl.mem_of_some hr)
    have e1 := hide (Pl.any_take_succ Pl.badR hr)
    have HR := hide hr
    have hm' := hide hm
    have hbad' := hide hbad
    have hb2' := hide hb2
    clear hr hm hbad hb2
    by_cases h4 : r.length < 4
    ·have hd : decide ((r.length : Int) < 4) = true := by simp; omega
     have hb4 : Hid (Pl.badR r = true) := by simp [Hid, Pl.badR, h4]
     go_wp2
     go_quiet (fail)
     go_wp2
     go_ret
     exact ⟨ret_bool (by simp [Pl.badL, Pl.badRs, Pl.any_true_of Pl.badR HR.out hb4.out]), _, World.drewN_drewN _ _ _⟩
    ·have hd : decide ((r.length : Int) < 4) = false := by simp; omega
     obtain ⟨p0, hp0⟩ := Pl.some_of_lt (l := r) (k := 0) (by omega)
     obtain ⟨p1, hp1⟩ := Pl.some_of_lt (l := r) (k := r.length - 1) (by omega)
     have HB := hide (Pl.badR_long h4 hp0 hp1)
     obtain ⟨b2, rfl, c00, c01⟩ := hp 0 p0 hp0
     obtain ⟨b2', e2, c10, c11⟩ := hp (r.length - 1) p1 hp1
     cases e2
     clear hp hp0 hp1
     obtain ⟨x0, y0⟩ := p0
     obtain ⟨x1, y1⟩ := p1
     dsimp only at c00 c01 c10 c11
     have q0 : 0 < r.length := by omega
     have q1 : (1 : Int) ≤ (r.length : Int) := by omega
     rcases (show (x0 = x1 ∧ y0 = y1) ∨ (x0 ≠ x1) ∨ (x0 = x1 ∧ y0 ≠ y1) from by omega) with ⟨rfl, rfl⟩ | hx | ⟨rfl, hy⟩
     ·go_wp2
      refine wp_region_quiet_lit (by kernel_rfl) (by kernel_rfl) ?_
      repeat (first | go_big_quiet_step (fail) | quiet_step (fail))
      refine wpQuiet_nil ?_
      intro _ hw'
      obtain ⟨nq, hw''⟩ := hw'
      subst hw''
      go_wp2
      go_roundw
      case rel => exact ⟨k + 1, by omega, by go_num, by rw [e1.out, hbad'.out, HB.out]; simp, n + nq, by simp⟩
      case measure => simp [intOf]; omega
     all_goals
      go_wp2
      refine wp_region_quiet_lit (by kernel_rfl) (by kernel_rfl) ?_
      repeat (first | go_big_quiet_step (fail) | quiet_step (fail))
      refine wpQuiet_nil ?_
      intro _ hw'
      obtain ⟨nq, hw''⟩ := hw'
      subst hw''
      go_wp2
      go_ret
      exact ⟨ret_bool (by simp [Pl.badL, Pl.badRs, Pl.any_true_of Pl.badR HR.out (by rw [HB.out]; simp [*])]), _, World.drewN_drewN _ _ _⟩
   ·have : k = l.length := by omega
    subst this
    go_wp2
    go_ret
    have hne : l ≠ [] := fun e => h0 (by simp [e])
    rw [List.take_length] at hbad
    exact ⟨ret_bool (by simp [Pl.badL, Pl.badRs, hbad, hne]), _, rfl⟩
theorem far_or (x y : Int) : Pl.wideP (x, y) = (Pl.farC x || Pl.farC y) := rfl
set_option maxHeartbeats 1000000 in
theorem outOfRange_any (v : Value) (l : Poly) (w : World) (hv : Rd2 w v l) (hb : l.length ≤ 1048576) (hb2 : ∀ r ∈ l, r.length ≤ 1048576) :
  Calls Tryz.prog 55 #[v] w fun e w' => e = .returned (.bool (Pl.wideL l)) ∧ Up w w' := by
 obtain ⟨ao, cap, rfl, hm⟩ := hv
 go_enter Tryz.func55, Tryz.ntmps55
 go_wp2
 go_loopw [9] (fun i wr => ∃ k : Nat, k ≤ l.length ∧ i = .int .i64 k ∧ (l.take k).any Pl.wideR = false ∧ Up w wr) (fun i _ => l.length - (intOf i).toNat)
 case atStart => exact ⟨0, Nat.zero_le _, rfl, rfl, Up.refl _⟩
 case round =>
  obtain ⟨k, hk, rfl, hbad, hup⟩ := hrel
  by_cases hlt : k < l.length
  ·obtain ⟨r, hr⟩ := Pl.some_of_lt hlt
   obtain ⟨b, u, rfl, hc, ao2, cap2, rfl, hp⟩ := hm k r hr
   have hrl := hb2 r (Pl.mem_of_some hr)
   have hc' := hup.cell hc
   have e1 := hide (Pl.any_take_succ Pl.wideR hr)
   have HR := hide hr
   have hm' := hide hm
   have hbad' := hide hbad
   have hb2' := hide hb2
   have hup' := hide hup
   have hp' := hide hp
   clear hr hm hbad hb2 hup hc hp
   go_wp2
   go_loopw [15] (fun j wq => ∃ q : Nat, q ≤ r.length ∧ j = .int .i64 q ∧ (r.take q).any Pl.wideP = false ∧ Up w wq) (fun j _ => r.length - (intOf j).toNat)
   case atStart => exact ⟨0, Nat.zero_le _, rfl, rfl, hup'.out⟩
   case round =>
    obtain ⟨q, hq, rfl, hbq, huq⟩ := hrel
    by_cases hlq : q < r.length
    ·obtain ⟨⟨x, y⟩, hxy⟩ := Pl.some_of_lt hlq
     obtain ⟨b2, rfl, cx, cy⟩ := hp'.out q (x, y) hxy
     have cx' := huq.cell cx
     have cy' := huq.cell cy
     dsimp only at cx' cy'
     have e2 := hide (Pl.any_take_succ Pl.wideP hxy)
     have HXY := hide hxy
     have hbq' := hide hbq
     have huq' := hide huq
     clear hxy hbq huq cx cy hp'
     cases hfx : Pl.farC x
     ·cases hfy : Pl.farC y
      ·have hw2 : Hid (Pl.wideP (x, y) = false) := by simp [Hid, far_or, hfx, hfy]
       go_wp2_with (go_at_call 74; refine (isFar_any _ _).mono ?_; rintro e w' ⟨rfl, rfl⟩)
       go_roundw
       case rel => exact ⟨q + 1, by omega, by go_num, by rw [e2.out, hbq'.out, hw2.out]; rfl, huq'.out.alloc _⟩
       case measure => simp [intOf]; omega
      ·have hw2 : Hid (Pl.wideP (x, y) = true) := by simp [Hid, far_or, hfx, hfy]
       go_wp2_with (go_at_call 74; refine (isFar_any _ _).mono ?_; rintro e w' ⟨rfl, rfl⟩)
       go_ret
       exact ⟨ret_bool (Pl.any_true_of Pl.wideR HR.out (Pl.any_true_of Pl.wideP HXY.out hw2.out)).symm, (huq'.out.alloc _)⟩
     ·have hw2 : Hid (Pl.wideP (x, y) = true) := by simp [Hid, far_or, hfx]
      go_wp2_with (go_at_call 74; refine (isFar_any _ _).mono ?_; rintro e w' ⟨rfl, rfl⟩)
      go_ret
      exact ⟨ret_bool (Pl.any_true_of Pl.wideR HR.out (Pl.any_true_of Pl.wideP HXY.out hw2.out)).symm, (huq'.out.alloc _)⟩
    ·have : q = r.length := by omega
     subst this
     rw [List.take_length] at hbq
     have hbq' := hide hbq
     clear hbq
     go_wp2
     go_roundw
     case rel => exact ⟨k + 1, by omega, by go_num, by rw [e1.out, hbad'.out, show Pl.wideR r = false from hbq'.out]; rfl, huq⟩
     case measure => simp [intOf]; omega
  ·have : k = l.length := by omega
   subst this
   go_wp2
   go_ret
   rw [List.take_length] at hbad
   exact ⟨ret_bool hbad.symm, hup⟩
set_option maxHeartbeats 1000000 in
theorem fault_any (v : Value) (m : Mult) (w : World) (hv : Rd3 w v m) (hb : Pl.Bd m) :
  Calls Tryz.prog 40 #[v] w fun e w' => e = .returned (.int .i64 (Pl.wrong m)) ∧ Up w w' := by
 have hv' := hide hv
 have hb' := hide hb
 obtain ⟨ao, cap, rfl, hm⟩ := hv
 have hlen := hb.len
 clear hb
 cases hmany : Pl.many m
 ·go_enter Tryz.func40, Tryz.ntmps40
  go_wp2_with (go_at_call 53; refine (tooMany_any _ m _ ?_ ?_).mono ?_; exact hv'.out; exact hb'.out; rintro e w' ⟨rfl, rfl⟩)
  go_loopw [11] (fun i wr => ∃ k : Nat, k ≤ m.length ∧ i = .int .i64 k ∧ (m.take k).any Pl.badL = false ∧ Up w' wr) (fun i _ => m.length - (intOf i).toNat)
  case atStart => exact ⟨0, Nat.zero_le _, rfl, rfl, Up.refl _⟩
  case round =>
   obtain ⟨k, hk, rfl, hbad, hup⟩ := hrel
   by_cases hlt : k < m.length
   ·obtain ⟨l, hl⟩ := Pl.some_of_lt hlt
    obtain ⟨b, u, rfl, hc, hu⟩ := hm k l hl
    have hc' := hup.cell hc
    have hu' := hide (hu.up hup)
    have e1 := hide (Pl.any_take_succ Pl.badL hl)
    have HR := hide hl
    have hbad' := hide hbad
    have hup' := hide hup
    have hm' := hide hm
    clear hl hbad hup hc hu hm
    have B1 := hide (hb'.out.poly l (Pl.mem_of_some HR.out))
    have B2 := hide (hb'.out.ring l (Pl.mem_of_some HR.out))
    cases hbl : Pl.badL l
    ·have hbl' := hide hbl
     go_wp2_with (go_at_call 54; refine (misformed_any _ l _ ?_ ?_ ?_).mono ?_; exact hu'.out; exact B1.out; exact B2.out; rintro e w' ⟨rfl, nq, rfl⟩; rw [hbl'.out])
     go_roundw
     case rel => exact ⟨k + 1, by omega, by go_num, by rw [e1.out, hbad'.out, hbl'.out]; rfl, hup'.out.drewN _⟩
     case measure => simp [intOf]; omega
    ·have hbl' := hide hbl
     go_wp2_with (go_at_call 54; refine (misformed_any _ l _ ?_ ?_ ?_).mono ?_; exact hu'.out; exact B1.out; exact B2.out; rintro e w' ⟨rfl, nq, rfl⟩; rw [hbl'.out])
     go_ret
     exact ⟨by rw [Pl.wrong, hmany, Pl.any_true_of Pl.badL HR.out hbl'.out]; rfl, hup'.out.drewN _⟩
   ·have : k = m.length := by omega
    subst this
    rw [List.take_length] at hbad
    have hbad' := hide hbad
    have hup' := hide hup
    clear hbad hup
    go_wp2
    go_loopw [20] (fun i wr => ∃ k : Nat, k ≤ m.length ∧ i = .int .i64 k ∧ (m.take k).any Pl.wideL = false ∧ Up w' wr) (fun i _ => m.length - (intOf i).toNat)
    case atStart => exact ⟨0, Nat.zero_le _, rfl, rfl, hup'.out⟩
    case round =>
     obtain ⟨k, hk, rfl, hbad, hup⟩ := hrel
     by_cases hlt : k < m.length
     ·obtain ⟨l, hl⟩ := Pl.some_of_lt hlt
      obtain ⟨b, u, rfl, hc, hu⟩ := hm k l hl
      have hc' := hup.cell hc
      have hu' := hide (hu.up hup)
      have e1 := hide (Pl.any_take_succ Pl.wideL hl)
      have HR := hide hl
      have hbd := hide hbad
      have hup2 := hide hup
      have hm' := hide hm
      clear hl hbad hup hc hu hm
      have B1 := hide (hb'.out.poly l (Pl.mem_of_some HR.out))
      have B2 := hide (hb'.out.ring l (Pl.mem_of_some HR.out))
      cases hbl : Pl.wideL l
      ·have hbl' := hide hbl
       go_wp2_with (go_at_call 55; refine (outOfRange_any _ l _ ?_ ?_ ?_).mono ?_; exact hu'.out; exact B1.out; exact B2.out; rintro e w2 ⟨rfl, hw2⟩; rw [hbl'.out]; replace hw2 := hide hw2)
       go_roundw
       case rel => exact ⟨k + 1, by omega, by go_num, by rw [e1.out, hbd.out, hbl'.out]; rfl, hup2.out.trans hw2.out⟩
       case measure => simp [intOf]; omega
      ·have hbl' := hide hbl
       go_wp2_with (go_at_call 55; refine (outOfRange_any _ l _ ?_ ?_ ?_).mono ?_; exact hu'.out; exact B1.out; exact B2.out; rintro e w2 ⟨rfl, hw2⟩; rw [hbl'.out]; replace hw2 := hide hw2)
       go_ret
       exact ⟨by rw [Pl.wrong, hmany, hbad'.out, Pl.any_true_of Pl.wideL HR.out hbl'.out]; rfl, hup2.out.trans hw2.out⟩
     ·have : k = m.length := by omega
      subst this
      rw [List.take_length] at hbad
      have hbd := hide hbad
      have hup2 := hide hup
      clear hbad hup
      go_wp2
      go_ret
      exact ⟨by rw [Pl.wrong, hmany, hbad'.out, hbd.out]; rfl, hup2.out⟩
 ·go_enter Tryz.func40, Tryz.ntmps40
  go_wp2_with (go_at_call 53; refine (tooMany_any _ m _ ?_ ?_).mono ?_; exact hv'.out; exact hb'.out; rintro e w' ⟨rfl, rfl⟩)
  go_ret
  exact ⟨by rw [Pl.wrong, hmany]; rfl, Up.refl _⟩
def flat (r : Ring) : List Value := r.flatMap fun p => [.int .i64 p.1, .int .i64 p.2]
theorem flat_nil : flat [] = [] := rfl
theorem flat_cons (p : Pnt) (r : Ring) : flat (p :: r) = .int .i64 p.1 :: .int .i64 p.2 :: flat r := rfl
theorem flat_append (a b : Ring) : flat (a ++ b) = flat a ++ flat b := by simp [flat]
theorem flat_length (r : Ring) : (flat r).length = r.length * 2 := by
 induction r with
 | nil => rfl
 | cons p r ih => rw [flat_cons]; simp only [List.length_cons, ih]; omega
theorem flat_one (r : Ring) : ∀ v ∈ flat r, v.oneCell' = true := by
 intro v hv
 obtain ⟨p, _, hp⟩ := List.mem_flatMap.1 hv
 simp at hp
 rcases hp with rfl | rfl <;> rfl
theorem flat_at (r : Ring) : ∀ (i : Nat) (p : Pnt), r[i]? = some p → (flat r)[i * 2]? = some (.int .i64 p.1) ∧ (flat r)[i * 2 + 1]? = some (.int .i64 p.2) := by
  induction r with
  | nil => intro i p h; simp at h
  | cons q r ih =>
    intro i p h
    cases i with
    | zero => simp at h; subst h; exact ⟨rfl, rfl⟩
    | succ i =>
      have := ih i p (by simpa using h)
      rw [flat_cons]
      have e1 : (i + 1) * 2 = i * 2 + 1 + 1 := by omega
      rw [e1]
      exact ⟨by simpa using this.1, by simpa using this.2⟩
theorem flat_set (r : Ring) : ∀ (i : Nat) (p : Pnt), flat (r.set i p) = ((flat r).set (i * 2) (.int .i64 p.1)).set (i * 2 + 1) (.int .i64 p.2) := by
  induction r with
  | nil => intro i p; rfl
  | cons q r ih =>
    intro i p
    cases i with
    | zero => rfl
    | succ i =>
      have e1 : (i + 1) * 2 = i * 2 + 1 + 1 := by omega
      rw [e1, List.set_cons_succ, flat_cons, flat_cons, ih]
      rfl
def VRow (w : World) (b : Nat) (t : TypeId) (vs : List Value) : Prop := w.heap[b]? = some (.cells vs.toArray t (0, 0))
def PRow (w : World) (b : Nat) (r : Ring) : Prop := VRow w b 48 (flat r)
theorem VRow.lt {w : World} {b : Nat} {t : TypeId} {vs : List Value} (h : VRow w b t vs) : b < w.heap.size := (Array.getElem?_eq_some_iff.1 h).1
theorem VRow.cell {w : World} {b : Nat} {t : TypeId} {vs : List Value} (h : VRow w b t vs) {i : Nat} {v : Value} (hi : vs[i]? = some v) : w.cell? ⟨b, i, none⟩ = some v := by
 unfold VRow at h
 simp [World.cell?, h, hi]
theorem VRow.frozen {w : World} {b : Nat} {t : TypeId} {vs : List Value} (h : VRow w b t vs) (i : Nat) : w.frozen? ⟨b, i, none⟩ = false := by
 unfold VRow at h
 simp [World.frozen?, h]
theorem VRow.of_block {w w' : World} {b : Nat} {t : TypeId} {vs : List Value} (h : VRow w b t vs) (e : w'.heap[b]? = w.heap[b]?) : VRow w' b t vs := e.trans h
theorem VRow.alloc {w : World} {b : Nat} {t : TypeId} {vs : List Value} (h : VRow w b t vs) (o : Obj) : VRow (w.alloc o) b t vs := h.of_block (Below.heap_alloc _ _ _ h.lt)
theorem VRow.new (w : World) (vs : List Value) (t : TypeId) : VRow (w.alloc (.cells vs.toArray t)) w.heap.size t vs := heap_alloc_new w _
theorem VRow.set {w : World} {b : Nat} {t : TypeId} {vs : List Value} (h : VRow w b t vs) (i : Nat) (v : Value) : VRow (w.setCell ⟨b, i, none⟩ v) b t (vs.set i v) := by
 unfold VRow at *
 simp [World.setCell, Array.getElem?_modify, h]
theorem VRow.setOther {w : World} {b : Nat} {t : TypeId} {vs : List Value} (h : VRow w b t vs) {a : Addr} (ha : b ≠ a.block) (v : Value) : VRow (w.setCell a v) b t vs := h.of_block (Below.heap_setCell _ _ _ _ ha)
theorem VRow.drewN {w : World} {b : Nat} {t : TypeId} {vs : List Value} (h : VRow w b t vs) (n : Nat) : VRow (w.drewN n) b t vs := h
theorem PRow.cells {w : World} {b : Nat} {r : Ring} (h : PRow w b r) {i : Nat} {p : Pnt} (hi : r[i]? = some p) : w.cell? ⟨b, i * 2, none⟩ = some (.int .i64 p.1) ∧ w.cell? ⟨b, i * 2 + 1, none⟩ = some (.int .i64 p.2) :=
 ⟨VRow.cell h (flat_at r i p hi).1, VRow.cell h (flat_at r i p hi).2⟩
theorem PRow.set {w : World} {b : Nat} {r : Ring} (h : PRow w b r) (i : Nat) (p : Pnt) : PRow ((w.setCell ⟨b, i * 2, none⟩ (.int .i64 p.1)).setCell ⟨b, i * 2 + 1, none⟩ (.int .i64 p.2)) b (r.set i p) := by
 unfold PRow; rw [flat_set]; exact (VRow.set h _ _).set _ _
structure D1 where
 b : Nat
 r : Ring
 s : Ring
structure D2 where
 b : Nat
 rs : List D1
 s : List D1
structure D3 where
 b : Nat
 ps : List D2
 s : List D2
def D1.v (d : D1) : Value := .slice (some ⟨d.b, 0, none⟩) d.r.length (d.r.length + d.s.length)
def D2.v (d : D2) : Value := .slice (some ⟨d.b, 0, none⟩) d.rs.length (d.rs.length + d.s.length)
def D3.v (d : D3) : Value := .slice (some ⟨d.b, 0, none⟩) d.ps.length (d.ps.length + d.s.length)
def D2.pts (d : D2) : Poly := d.rs.map D1.r
def D3.m (d : D3) : Mult := d.ps.map D2.pts
def D2.bl (d : D2) : List Nat := d.b :: (d.rs ++ d.s).map D1.b
def D3.bl (d : D3) : List Nat := d.b :: (d.ps ++ d.s).flatMap D2.bl
def OK1 (w : World) (d : D1) : Prop := PRow w d.b (d.r ++ d.s)
structure OK2 (w : World) (d : D2) : Prop where
 row : VRow w d.b 46 ((d.rs ++ d.s).map D1.v)
 sub : ∀ x ∈ d.rs ++ d.s, OK1 w x
structure OK3 (w : World) (d : D3) : Prop where
 row : VRow w d.b 45 ((d.ps ++ d.s).map D2.v)
 sub : ∀ x ∈ d.ps ++ d.s, OK2 w x
theorem OK1.of {w w' : World} {d : D1} (h : OK1 w d) (e : w'.heap[d.b]? = w.heap[d.b]?) : OK1 w' d := VRow.of_block h e
theorem OK2.of {w w' : World} {d : D2} (h : OK2 w d) (e : ∀ b ∈ d.bl, w'.heap[b]? = w.heap[b]?) : OK2 w' d :=
 ⟨h.row.of_block (e _ (by simp [D2.bl])), fun x hx => (h.sub x hx).of (e _ (by simp only [D2.bl, List.mem_cons]; exact .inr (List.mem_map_of_mem hx)))⟩
theorem OK3.of {w w' : World} {d : D3} (h : OK3 w d) (e : ∀ b ∈ d.bl, w'.heap[b]? = w.heap[b]?) : OK3 w' d :=
 ⟨h.row.of_block (e _ (by simp [D3.bl])), fun x hx => (h.sub x hx).of (fun b hb => e b (by simp only [D3.bl, List.mem_cons, List.mem_flatMap]; exact .inr ⟨x, hx, hb⟩))⟩
theorem OK2.lt {w : World} {d : D2} (h : OK2 w d) : ∀ b ∈ d.bl, b < w.heap.size := by
 intro b hb
 simp only [D2.bl, List.mem_cons, List.mem_map] at hb
 rcases hb with rfl | ⟨x, hx, rfl⟩
 ·exact h.row.lt
 ·exact VRow.lt (h.sub x hx)
theorem OK3.lt {w : World} {d : D3} (h : OK3 w d) : ∀ b ∈ d.bl, b < w.heap.size := by
 intro b hb
 simp only [D3.bl, List.mem_cons, List.mem_flatMap] at hb
 rcases hb with rfl | ⟨x, hx, hb⟩
 ·exact h.row.lt
 ·exact (h.sub x hx).lt b hb
theorem OK2.up {w w' : World} {d : D2} (h : OK2 w d) (k : Up w w') : OK2 w' d := h.of fun b hb => k.block _ (h.lt b hb)
theorem OK3.up {w w' : World} {d : D3} (h : OK3 w d) (k : Up w w') : OK3 w' d := h.of fun b hb => k.block _ (h.lt b hb)
theorem OK1.rd {w : World} {d : D1} (h : OK1 w d) : Rd1 w d.v d.r :=
 ⟨_, _, rfl, fun i p hp => ⟨d.b, rfl, PRow.cells h (by rw [List.getElem?_append_left (Pl.lt_of_some hp)]; exact hp)⟩⟩
theorem OK2.rd {w : World} {d : D2} (h : OK2 w d) : Rd2 w d.v d.pts := by
 refine ⟨_, _, by simp only [D2.v, D2.pts, List.length_map]; rfl, fun i r hr => ?_⟩
 simp only [D2.pts, List.getElem?_map, Option.map_eq_some_iff] at hr
 obtain ⟨x, hx, rfl⟩ := hr
 have hx' : (d.rs ++ d.s)[i]? = some x := by rw [List.getElem?_append_left (Pl.lt_of_some hx)]; exact hx
 exact ⟨d.b, x.v, rfl, h.row.cell (by simp only [List.getElem?_map, hx']; rfl), (h.sub x (Pl.mem_of_some hx')).rd⟩
theorem OK3.rd {w : World} {d : D3} (h : OK3 w d) : Rd3 w d.v d.m := by
 refine ⟨_, _, by simp only [D3.v, D3.m, List.length_map]; rfl, fun i r hr => ?_⟩
 simp only [D3.m, List.getElem?_map, Option.map_eq_some_iff] at hr
 obtain ⟨x, hx, rfl⟩ := hr
 have hx' : (d.ps ++ d.s)[i]? = some x := by rw [List.getElem?_append_left (Pl.lt_of_some hx)]; exact hx
 exact ⟨d.b, x.v, rfl, h.row.cell (by simp only [List.getElem?_map, hx']; rfl), (h.sub x (Pl.mem_of_some hx')).rd⟩
theorem alloc_setRow (w : World) (c c' : Array Value) (t : TypeId) : (w.alloc (.cells c t)).setRow w.heap.size c' = w.alloc (.cells c' t) := by
 show ({ w with heap := (w.heap.push (.cells c t)).modify w.heap.size _ } : World) = { w with heap := w.heap.push (.cells c' t) }
 congr 1
 apply Array.ext_getElem?
 intro k
 rw [Array.getElem?_modify, Array.getElem?_push, Array.getElem?_push]
 by_cases hk : w.heap.size = k
 ·subst hk; simp
 ·have hk' : ¬ k = w.heap.size := fun e => hk e.symm
  simp [hk, hk']
theorem run_copy_pts {P : Program} (w : World) (dT sT ty elem : TypeId) (g dLen dCap : Nat) (ao : Option Addr) (sCap : Nat) (t : TypeId) (cur : List Value) (r : Ring)
    (hu : P.underlying dT = some (.slice elem)) (hs : (P.info? elem).map (·.size) = some 2) (hg : w.heap[g]? = some (.cells cur.toArray t (0, 0)))
    (hn : r.length ≤ dLen) (hsrc : ∀ i p, r[i]? = some p → ∃ b, ao = some ⟨b, 0, none⟩ ∧ w.cell? ⟨b, i * 2, none⟩ = some (.int .i64 p.1) ∧ w.cell? ⟨b, i * 2 + 1, none⟩ = some (.int .i64 p.2)) (hfit : r.length * 2 ≤ cur.length) :
    (Builtin.copy_ #[dT, sT] ty #[.slice (some ⟨g, 0, none⟩) dLen dCap, .slice ao r.length sCap]).run P w = .ok (goInt r.length) (w.setRow g (flat r ++ cur.drop (r.length * 2)).toArray) := by
  have hst := run_storeCells_at P g 0 t (flat r) 0 cur.toArray w hg (by simpa [flat_length] using hfit) (flat_one r)
  simp only [Nat.zero_add, List.take_zero, List.nil_append, flat_length] at hst
  have hmin : Nat.min r.length dLen = r.length := Nat.min_eq_left hn
  cases hq : P.info? elem with
  | none => simp [hq] at hs
  | some i =>
    have hi : i.size = 2 := by simpa [hq] using hs
    cases hr : r with
    | nil =>
      subst hr
      simp only [flat_nil, List.nil_append, List.length_nil, Nat.zero_mul, List.drop_zero] at hst ⊢
      cases ao with
      | none => simp [Builtin.copy_, run_underlying hu, Builtin.lenOf, Builtin.firstCells, sizeOf, typeInfo, hq, hi, storeCells, setRow_self w g cur.toArray t (0, 0) hg]
      | some a =>
        have hl := run_loadCells_list (P := P) w a [] (by intro j v h; simp at h)
        simp only [List.length_nil] at hl
        simp [Builtin.copy_, run_underlying hu, Builtin.lenOf, Builtin.firstCells, sizeOf, typeInfo, hq, hi, storeCells, hl, setRow_self w g cur.toArray t (0, 0) hg]
    | cons p0 r0 =>
      obtain ⟨b, rfl, _⟩ := hsrc 0 p0 (by rw [hr]; rfl)
      have hl := run_loadCells_list (P := P) w ⟨b, 0, none⟩ (flat r) (by
        intro j v hj
        have hjl : j < r.length * 2 := by have := Pl.lt_of_some hj; rwa [flat_length] at this
        obtain ⟨p, hp⟩ := Pl.some_of_lt (l := r) (k := j / 2) (by omega)
        obtain ⟨b', hb', e1, e2⟩ := hsrc _ p hp
        cases hb'
        have hf := flat_at r _ p hp
        have hadd : (⟨b, 0, none⟩ : Addr).add j = ⟨b, j, none⟩ := by unfold Addr.add; split <;> simp_all
        rw [hadd]
        rcases Nat.mod_two_eq_zero_or_one j with h2 | h2
        · rw [show j / 2 * 2 = j by omega] at hf e1
          rw [hf.1] at hj; cases hj; exact e1
        · rw [show j / 2 * 2 + 1 = j by omega] at hf e2
          rw [hf.2] at hj; cases hj; exact e2)
      rw [flat_length] at hl
      rw [← hr]
      simp [Builtin.copy_, run_underlying hu, Builtin.lenOf, Builtin.firstCells, sizeOf, typeInfo, hq, hi, hmin, hl, hst, flat_length]
theorem und_pts : Tryz.prog.underlying 46 = some (.slice 48) := by kernel_rfl
theorem und_rings : Tryz.prog.underlying 45 = some (.slice 46) := by kernel_rfl
theorem und_polys : Tryz.prog.underlying 42 = some (.slice 45) := by kernel_rfl
theorem info_pt : (Tryz.prog.info? 48).map (fun i => (i.zero, i.size, i.bytes)) = some (some (.agg #[.int .i64 0, .int .i64 0]), 2, 16) := by kernel_rfl
theorem info_pts : (Tryz.prog.info? 46).map (fun i => (i.zero, i.size, i.bytes)) = some (some (.slice none 0 0), 1, 24) := by kernel_rfl
theorem info_rings : (Tryz.prog.info? 45).map (fun i => (i.zero, i.size, i.bytes)) = some (some (.slice none 0 0), 1, 24) := by kernel_rfl
theorem size_pt : (Tryz.prog.info? 48).map (·.size) = some 2 := by kernel_rfl
def zpts (n : Nat) : Ring := List.replicate n (0, 0)
def znil (n : Nat) : List Value := List.replicate n (.slice none 0 0)
theorem rep_at {α : Type} {n k : Nat} {x : α} (h : k < n) : (List.replicate n x)[k]? = some x := by rw [List.getElem?_replicate, if_pos h]
theorem flat_zpts (n : Nat) : madeCells #[.int .i64 0, .int .i64 0] (n * 2) = (flat (zpts n)).toArray := by
 apply Array.ext
 ·rw [size_madeCells]; simp [flat_length, zpts]
 ·intro i h1 h2
  have hi : i < n * 2 := by rwa [size_madeCells] at h1
  have hp : (zpts n)[i / 2]? = some (0, 0) := rep_at (by omega)
  have hf := flat_at _ _ _ hp
  have e : (flat (zpts n))[i]? = some (.int .i64 0) := by
   rcases Nat.mod_two_eq_zero_or_one i with h | h
   ·rw [show i / 2 * 2 = i by omega] at hf; exact hf.1
   ·rw [show i / 2 * 2 + 1 = i by omega] at hf; exact hf.2
  have e2 : (flat (zpts n)).toArray[i] = .int .i64 0 := by
   have := List.getElem?_eq_some_iff.1 e
   obtain ⟨_, q⟩ := this
   simpa using q
  rw [e2]
  simp only [madeCells, Array.getElem_map, Array.getElem_range]
  rcases Nat.mod_two_eq_zero_or_one i with h | h <;> simp [h]
theorem make_pts (n : Nat) (hn : n ≤ 2097152) (w : World) :
  (Instr.makeSlice 46 (.int .i64 (n : Int)) (.int .i64 (n : Int))).run Tryz.prog w = .ok (.slice (some ⟨w.heap.size, 0, none⟩) n n) (w.alloc (.cells (flat (zpts n)).toArray 48)) := by
 obtain ⟨i, hi, hzz⟩ := Option.map_eq_some_iff.1 info_pt
 simp only [Prod.mk.injEq] at hzz
 obtain ⟨z1, z2, z3⟩ := hzz
 have hr := run_make (P := Tryz.prog) w 46 48 i _ und_pts hi z1 .i64 .i64 n n (by omega) (Int.le_refl _) (by rw [z3]; omega) (by omega)
 rw [hr, z2]
 simp only [Int.toNat_natCast, Value.cells, flat_zpts]
theorem make_rings (n : Nat) (hn : n ≤ 2097152) (w : World) :
  (Instr.makeSlice 45 (.int .i64 (n : Int)) (.int .i64 (n : Int))).run Tryz.prog w = .ok (.slice (some ⟨w.heap.size, 0, none⟩) n n) (w.alloc (.cells (znil n).toArray 46)) := by
 rw [run_make_row' 45 46 _ 24 und_rings info_pts rfl .i64 .i64 n (by omega) (by omega) w]
 congr 3
 rw [← Array.toArray_toList (xs := madeCells _ _), toList_madeCells_one]; rfl
theorem make_polys (n : Nat) (hn : n ≤ 2097152) (w : World) :
  (Instr.makeSlice 42 (.int .i64 (n : Int)) (.int .i64 (n : Int))).run Tryz.prog w = .ok (.slice (some ⟨w.heap.size, 0, none⟩) n n) (w.alloc (.cells (znil n).toArray 45)) := by
 rw [run_make_row' 42 45 _ 24 und_polys info_rings rfl .i64 .i64 n (by omega) (by omega) w]
 congr 3
 rw [← Array.toArray_toList (xs := madeCells _ _), toList_madeCells_one]; rfl
structure CR (w wr : World) (B : Nat) (l : Poly) (k : Nat) (ds : List D1) : Prop where
 row : VRow wr B 46 (ds.map D1.v ++ znil (l.length - k))
 rs : ds.map D1.r = l.take k
 len : ds.length = k
 bare : ∀ d ∈ ds, d.s = []
 ok : ∀ d ∈ ds, OK1 wr d
 nodup : (B :: ds.map D1.b).Nodup
 low : ∀ b ∈ B :: ds.map D1.b, w.heap.size ≤ b
 up : Up w wr
theorem set_at {α : Type} (a : List α) (x y : α) (n : Nat) : (a ++ List.replicate (n + 1) x).set a.length y = a ++ [y] ++ List.replicate n x := by
 rw [List.set_append_right _ _ (Nat.le_refl _), Nat.sub_self, List.replicate_succ, List.set_cons_zero]; simp
theorem CR.step {w wr : World} {B : Nat} {l : Poly} {k : Nat} {ds : List D1} (h : CR w wr B l k ds) {r : Ring} (hr : l[k]? = some r) :
  CR w ((wr.alloc (.cells (flat r).toArray 48)).setCell ⟨B, k, none⟩ (.slice (some ⟨wr.heap.size, 0, none⟩) r.length r.length)) B l (k + 1) (ds ++ [⟨wr.heap.size, r, []⟩]) := by
 have hk := Pl.lt_of_some hr
 have hB : B < wr.heap.size := h.row.lt
 have hW : w.heap.size ≤ wr.heap.size := h.up.size
 have hBl := h.low B (by simp)
 refine ⟨?_, ?_, ?_, ?_, ?_, ?_, ?_, ?_⟩
 ·have := (h.row.alloc (.cells (flat r).toArray 48)).set k (.slice (some ⟨wr.heap.size, 0, none⟩) r.length r.length)
  have e : l.length - k = (l.length - (k + 1)) + 1 := by omega
  rw [e] at this
  have e2 := set_at (ds.map D1.v) (.slice none 0 0) (.slice (some ⟨wr.heap.size, 0, none⟩) r.length r.length) (l.length - (k + 1))
  rw [List.length_map, h.len] at e2
  rw [znil, e2] at this
  simpa [D1.v, znil] using this
 ·rw [Pl.take_one hr, List.map_append, h.rs]; rfl
 ·simp [h.len]
 ·intro d hd
  rcases List.mem_append.1 hd with hd | hd
  ·exact h.bare d hd
  ·simp at hd; subst hd; rfl
 ·intro d hd
  rcases List.mem_append.1 hd with hd | hd
  ·have hne : d.b ≠ B := fun e => (List.nodup_cons.1 h.nodup).1 (by rw [← e]; exact List.mem_map_of_mem hd)
   exact VRow.setOther (VRow.alloc (h.ok d hd) _) hne _
  ·simp at hd; subst hd
   refine VRow.setOther (b := wr.heap.size) ?_ (by show wr.heap.size ≠ B; omega) _
   simpa using VRow.new wr (flat r) _
 ·have h1 : ∀ x ∈ B :: ds.map D1.b, x < wr.heap.size := by
   intro x hx
   rcases List.mem_cons.1 hx with rfl | hx
   ·exact hB
   ·obtain ⟨d, hd, rfl⟩ := List.mem_map.1 hx
    exact VRow.lt (h.ok d hd)
  rw [List.map_append, ← List.cons_append, List.nodup_append]
  refine ⟨h.nodup, by simp, ?_⟩
  intro a ha b hb
  simp at hb; subst hb
  have := h1 a ha; omega
 ·intro b hb
  rw [List.map_append, ← List.cons_append] at hb
  rcases List.mem_append.1 hb with hb | hb
  ·exact h.low b hb
  ·simp at hb; omega
 ·exact (h.up.alloc _).setCell hBl _
theorem CR.start (w : World) (l : Poly) : CR w (w.alloc (.cells (znil l.length).toArray 46)) w.heap.size l 0 [] :=
 ⟨by simpa using VRow.new w (znil l.length) _, rfl, rfl, by simp, by simp, by simp, by simp, (Up.refl _).alloc _⟩
def D2.bare (d : D2) : Prop := d.s = [] ∧ ∀ x ∈ d.rs, x.s = []
def D3.bare (d : D3) : Prop := d.s = [] ∧ ∀ x ∈ d.ps, x.bare
set_option maxRecDepth 100000 in
set_option maxHeartbeats 1000000 in
theorem copyRings_any (v : Value) (l : Poly) (w : World) (hv : Rd2 w v l) (hb : l.length ≤ 1048576) (hb2 : ∀ r ∈ l, r.length ≤ 1048576) :
  Calls Tryz.prog 50 #[v] w fun e w' => ∃ d : D2, e = .returned d.v ∧ OK2 w' d ∧ d.pts = l ∧ d.bare ∧ d.bl.Nodup ∧ (∀ b ∈ d.bl, w.heap.size ≤ b) ∧ Up w w' := by
 obtain ⟨ao, cap, rfl, hm⟩ := hv
 have hmk := make_rings l.length (by omega)
 have hst := CR.start w l
 go_enter Tryz.func50, Tryz.ntmps50
 go_wp2
 clear hmk
 have hst' := hide hst
 clear hst
 go_loopw [12] (fun i wr => ∃ (k : Nat) (ds : List D1), k ≤ l.length ∧ i = .int .i64 k ∧ CR w wr w.heap.size l k ds) (fun i _ => l.length - (intOf i).toNat)
 case atStart => exact ⟨0, [], Nat.zero_le _, rfl, hst'.out⟩
 case round =>
  obtain ⟨k, ds, hk, rfl, hcr⟩ := hrel
  by_cases hlt : k < l.length
  ·obtain ⟨r, hr⟩ := Pl.some_of_lt hlt
   obtain ⟨b, u, rfl, hc, ao2, cap2, rfl, hp⟩ := hm k r hr
   have hrl := hb2 r (Pl.mem_of_some hr)
   have hc' := hcr.up.cell hc
   have hmk := make_pts r.length (by omega)
   have hfz : ∀ o, (wr.alloc o).frozen? ⟨w.heap.size, k, none⟩ = false := fun o => (hcr.row.alloc o).frozen k
   have hce : ∀ o, (wr.alloc o).cell? ⟨w.heap.size, k, none⟩ = some (.slice none 0 0) := fun o => (hcr.row.alloc o).cell (by
    rw [List.getElem?_append_right (by rw [List.length_map, hcr.len]; omega), List.length_map, hcr.len, Nat.sub_self]; exact rep_at (by omega))
   have hsrc : Hid (∀ o, ∀ i p, r[i]? = some p → ∃ b, ao2 = some ⟨b, 0, none⟩ ∧ (wr.alloc o).cell? ⟨b, i * 2, none⟩ = some (.int .i64 p.1) ∧ (wr.alloc o).cell? ⟨b, i * 2 + 1, none⟩ = some (.int .i64 p.2)) := by
    intro o i p hip
    obtain ⟨b, e, c1, c2⟩ := hp i p hip
    exact ⟨b, e, (hcr.up.alloc o).cell c1, (hcr.up.alloc o).cell c2⟩
   have hfit : Hid (r.length * 2 ≤ (flat (zpts r.length)).length) := by simp [Hid, flat_length, zpts]
   have hdrop : (flat (zpts r.length)).drop (r.length * 2) = [] := List.drop_of_length_le (by simp [flat_length, zpts])
   have hcopy := run_copy_pts (P := Tryz.prog) (wr.alloc (.cells (flat (zpts r.length)).toArray 48)) 46 46 3 48 wr.heap.size r.length r.length ao2 cap2 48 (flat (zpts r.length)) r und_pts size_pt (heap_alloc_new wr _) (Nat.le_refl _) (hsrc.out _) hfit.out
   rw [alloc_setRow, hdrop, List.append_nil] at hcopy
   clear hdrop
   have hcr' := hide hcr
   have hr' := hide hr
   have hp' := hide hp
   have hm' := hide hm
   have hb2' := hide hb2
   clear hcr hr hp hm hb2 hc
   go_wp2
   go_roundw
   case rel => exact ⟨k + 1, _, by omega, by go_num, hcr'.out.step hr'.out⟩
   case measure => simp [intOf]; omega
  ·have : k = l.length := by omega
   subst this
   have hcr' := hide hcr
   clear hcr
   go_wp2
   go_ret
   have h := hcr'.out
   have hrs := h.rs
   rw [List.take_length] at hrs
   refine ⟨⟨w.heap.size, ds, []⟩, ?_, ⟨?_, ?_⟩, hrs, ⟨rfl, h.bare⟩, ?_, ?_, h.up⟩
   ·simp [D2.v, h.len]
   ·have := h.row
    simpa [znil] using this
   ·intro x hx
    exact h.ok x (by simpa using hx)
   ·simpa [D2.bl] using h.nodup
   ·intro b hb
    exact h.low b (by simpa [D2.bl] using hb)
structure CP (w wr : World) (B : Nat) (m : Mult) (k : Nat) (ds : List D2) : Prop where
 row : VRow wr B 45 (ds.map D2.v ++ znil (m.length - k))
 rs : ds.map D2.pts = m.take k
 len : ds.length = k
 bare : ∀ d ∈ ds, d.bare
 ok : ∀ d ∈ ds, OK2 wr d
 nodup : (B :: ds.flatMap D2.bl).Nodup
 low : ∀ b ∈ B :: ds.flatMap D2.bl, w.heap.size ≤ b
 up : Up w wr
theorem CP.start (w : World) (m : Mult) : CP w (w.alloc (.cells (znil m.length).toArray 45)) w.heap.size m 0 [] :=
 ⟨by simpa using VRow.new w (znil m.length) _, rfl, rfl, by simp, by simp, by simp, by simp, (Up.refl _).alloc _⟩
theorem CP.lt {w wr : World} {B : Nat} {m : Mult} {k : Nat} {ds : List D2} (h : CP w wr B m k ds) : ∀ x ∈ B :: ds.flatMap D2.bl, x < wr.heap.size := by
 intro x hx
 rcases List.mem_cons.1 hx with rfl | hx
 ·exact h.row.lt
 ·obtain ⟨d, hd, hx⟩ := List.mem_flatMap.1 hx
  exact (h.ok d hd).lt x hx
theorem CP.step {w wr wn : World} {B : Nat} {m : Mult} {k : Nat} {ds : List D2} (h : CP w wr B m k ds) {l : Poly} (hl : m[k]? = some l) {d : D2} (hup : Up wr wn) (hd : OK2 wn d) (hpts : d.pts = l) (hbare : d.bare)
  (hnd : d.bl.Nodup) (hlow : ∀ b ∈ d.bl, wr.heap.size ≤ b) : CP w (wn.setCell ⟨B, k, none⟩ d.v) B m (k + 1) (ds ++ [d]) := by
 have hk := Pl.lt_of_some hl
 have hB : B < wr.heap.size := h.row.lt
 have hW : w.heap.size ≤ wr.heap.size := h.up.size
 have hBl := h.low B (by simp)
 have hlt := h.lt
 refine ⟨?_, ?_, ?_, ?_, ?_, ?_, ?_, ?_⟩
 ·have := (h.row.of_block (hup.block B hB)).set k d.v
  have e : m.length - k = (m.length - (k + 1)) + 1 := by omega
  rw [e] at this
  have e2 := set_at (ds.map D2.v) (.slice none 0 0) d.v (m.length - (k + 1))
  rw [List.length_map, h.len] at e2
  rw [znil, e2] at this
  simpa [znil] using this
 ·rw [Pl.take_one hl, List.map_append, h.rs]; simp [hpts]
 ·simp [h.len]
 ·intro x hx
  rcases List.mem_append.1 hx with hx | hx
  ·exact h.bare x hx
  ·simp at hx; subst hx; exact hbare
 ·intro x hx
  rcases List.mem_append.1 hx with hx | hx
  ·refine ((h.ok x hx).up hup).of fun b hb => Below.heap_setCell _ _ _ _ ?_
   intro e
   subst e
   exact (List.nodup_cons.1 h.nodup).1 (List.mem_flatMap.2 ⟨x, hx, hb⟩)
  ·simp at hx; subst hx
   refine hd.of fun b hb => Below.heap_setCell _ _ _ _ ?_
   have := hlow b hb
   show b ≠ B
   omega
 ·rw [List.flatMap_append, ← List.cons_append, List.nodup_append]
  refine ⟨h.nodup, by simpa using hnd, ?_⟩
  intro a ha b hb
  have h1 := hlt a ha
  have h2 := hlow b (by simpa using hb)
  omega
 ·intro b hb
  rw [List.flatMap_append, ← List.cons_append] at hb
  rcases List.mem_append.1 hb with hb | hb
  ·exact h.low b hb
  ·have := hlow b (by simpa using hb); omega
 ·exact (h.up.trans hup).setCell hBl _
set_option maxRecDepth 100000 in
set_option maxHeartbeats 1000000 in
theorem copy_any (v : Value) (m : Mult) (w : World) (hv : Rd3 w v m) (hb : Pl.Bd m) :
  Calls Tryz.prog 36 #[v] w fun e w' => ∃ d : D3, e = .returned d.v ∧ OK3 w' d ∧ d.m = m ∧ d.bare ∧ d.bl.Nodup ∧ (∀ b ∈ d.bl, w.heap.size ≤ b) ∧ Up w w' := by
 obtain ⟨ao, cap, rfl, hm⟩ := hv
 have hlen := hb.len
 have hb' := hide hb
 have hmk := make_polys m.length (by omega)
 have hst := hide (CP.start w m)
 clear hb
 go_enter Tryz.func36, Tryz.ntmps36
 go_wp2
 clear hmk
 go_loopw [11] (fun i wr => ∃ (k : Nat) (ds : List D2), k ≤ m.length ∧ i = .int .i64 k ∧ CP w wr w.heap.size m k ds) (fun i _ => m.length - (intOf i).toNat)
 case atStart => exact ⟨0, [], Nat.zero_le _, rfl, hst.out⟩
 case round =>
  obtain ⟨k, ds, hk, rfl, hcr⟩ := hrel
  by_cases hlt : k < m.length
  ·obtain ⟨l, hl⟩ := Pl.some_of_lt hlt
   obtain ⟨b, u, rfl, hc, hu⟩ := hm k l hl
   have hc' := hcr.up.cell hc
   have hu' := hide (hu.up hcr.up)
   have hl' := hide hl
   have hm' := hide hm
   have hold : Hid (wr.cell? ⟨w.heap.size, k, none⟩ = some (.slice none 0 0)) := hcr.row.cell (by
    rw [List.getElem?_append_right (by rw [List.length_map, hcr.len]; omega), List.length_map, hcr.len, Nat.sub_self]; exact rep_at (by omega))
   have hfz : Hid (wr.frozen? ⟨w.heap.size, k, none⟩ = false) := hcr.row.frozen k
   have hcr' := hide hcr
   have hBl : Hid (w.heap.size < wr.heap.size) := hcr.row.lt
   clear hl hm hc hu hcr
   have B1 := hide (hb'.out.poly l (Pl.mem_of_some hl'.out))
   have B2 := hide (hb'.out.ring l (Pl.mem_of_some hl'.out))
   go_wp2_with (go_at_call 50; refine (copyRings_any _ l _ ?_ ?_ ?_).mono ?_; exact hu'.out; exact B1.out; exact B2.out; rintro e wn ⟨d, rfl, hd, hpts, hbare, hnd, hlow, hup⟩; simp only [D2.v]; replace hd := hide hd; replace hpts := hide hpts; replace hbare := hide hbare; replace hnd := hide hnd; replace hlow := hide hlow; have hold2 := hup.cell hold.out; have hfz2 : wn.frozen? ⟨w.heap.size, k, none⟩ = false := (Below.frozen hup (p := ⟨w.heap.size, k, none⟩) hBl.out).trans hfz.out; replace hup := hide hup)
   go_roundw
   case rel => exact ⟨k + 1, _, by omega, by go_num, hcr'.out.step hl'.out hup.out hd.out hpts.out hbare.out hnd.out hlow.out⟩
   case measure => simp [intOf]; omega
  ·have : k = m.length := by omega
   subst this
   have hcr' := hide hcr
   clear hcr
   go_wp2
   go_ret
   have h := hcr'.out
   have hrs := h.rs
   rw [List.take_length] at hrs
   refine ⟨⟨w.heap.size, ds, []⟩, ?_, ⟨?_, ?_⟩, hrs, ⟨rfl, h.bare⟩, ?_, ?_, h.up⟩
   ·simp [D3.v, h.len]
   ·have := h.row
    simpa [znil] using this
   ·intro x hx
    exact h.ok x (by simpa using hx)
   ·simpa [D3.bl] using h.nodup
   ·intro b hb
    exact h.low b (by simpa [D3.bl] using hb)
structure Set3 (w : World) (v : Value) (m : Mult) (b : Nat) (d : D3) : Prop where
 ptr : v = .pointer (some ⟨b, 0, none⟩)
 cell : VRow w b 62 [d.v]
 ok : OK3 w d
 pts : d.m = m
set_option maxRecDepth 100000 in
set_option maxHeartbeats 1000000 in
theorem make_ok (v : Value) (m : Mult) (w : World) (hv : Rd3 w v m) (hb : Pl.Bd m) (h0 : Pl.wrong m = 0) :
  Calls Tryz.prog 25 #[v] w fun e w' => ∃ p b d, e = .returned (.tuple #[p, .int .i64 0]) ∧ Set3 w' p m b d ∧ (∀ x ∈ b :: d.bl, w.heap.size ≤ x) ∧ Up w w' := by
 have hv' := hide hv
 have hb' := hide hb
 have h0' := hide h0
 clear hv hb h0
 go_enter Tryz.func25, Tryz.ntmps25
 go_wp2_with (first
  | (go_at_call 40; refine (fault_any _ m _ ?_ ?_).mono ?_; exact hv'.out; exact hb'.out; rintro e w1 ⟨rfl, hup1⟩; replace hup1 := hide hup1; rw [h0'.out])
  | (go_at_call 36; refine (copy_any _ m _ ?_ ?_).mono ?_; exact hv'.out.up hup1.out; exact hb'.out; rintro e w2 ⟨d, rfl, hd, hm, hbare, hnd, hlow, hup2⟩; simp only [D3.v]; replace hd := hide hd; replace hm := hide hm; replace hup2 := hide hup2; replace hlow := hide hlow; clear hbare hnd))
 go_ret2
 refine ⟨_, _, d, rfl, ⟨rfl, VRow.new w2 [d.v] _, hd.out.up ((Up.refl _).alloc _), hm.out⟩, ?_, (hup1.out.trans hup2.out).alloc _⟩
 intro x hx
 have s1 := hup1.out.size
 have s2 := hup2.out.size
 rcases List.mem_cons.1 hx with rfl | hx
 ·omega
 ·have := hlow.out x hx; omega
set_option maxHeartbeats 1000000 in
theorem make_bad (v : Value) (m : Mult) (w : World) (hv : Rd3 w v m) (hb : Pl.Bd m) (h0 : Pl.wrong m ≠ 0) :
  Calls Tryz.prog 25 #[v] w fun e w' => e = .returned (.tuple #[.pointer none, .int .i64 (Pl.wrong m)]) ∧ Up w w' := by
 have hv' := hide hv
 have hb' := hide hb
 have h0' : (Pl.wrong m == 0) = false := beq_eq_false_iff_ne.2 h0
 clear hv hb h0
 generalize hx : Pl.wrong m = x at *
 have hx' := hide hx
 clear hx
 go_enter Tryz.func25, Tryz.ntmps25
 go_wp2_with (go_at_call 40; refine (fault_any _ m _ ?_ ?_).mono ?_; exact hv'.out; exact hb'.out; rintro e w1 ⟨rfl, hup1⟩; replace hup1 := hide hup1; rw [hx'.out])
 go_ret2
 exact ⟨rfl, hup1.out⟩
set_option maxRecDepth 100000 in
set_option maxHeartbeats 8000000 in
theorem ksame_any (v u : Value) (m : Mult) (w : World) (hv : Rd3 w v m) (hu : Rd3 w u m) (hb : Pl.Bd m) :
  Calls Tryz.prog 26 #[v, u] w fun e w' => e = .returned (.bool true) ∧ ∃ n, w' = w.drewN n := by
 obtain ⟨ao, cap, rfl, hm⟩ := hv
 obtain ⟨ao2, cap2, rfl, hm2⟩ := hu
 have hlen := hb.len
 have hb' := hide hb
 have HM := hide hm
 have HM2 := hide hm2
 clear hb hm hm2
 go_enter Tryz.func26, Tryz.ntmps26
 go_wp2
 go_loopw [5] (fun i wr => ∃ k : Nat, k ≤ m.length ∧ i = .int .i64 k ∧ Hid (Dr w wr)) (fun i _ => m.length - (intOf i).toNat)
 case atStart => exact ⟨0, Nat.zero_le _, rfl, Dr.refl _⟩
 case round =>
  obtain ⟨k, hk, rfl, hdr'⟩ := hrel
  by_cases hlt : k < m.length
  ·obtain ⟨l, hl⟩ := Pl.some_of_lt hlt
   obtain ⟨b, x, rfl, hc, ao3, cap3, rfl, hr⟩ := HM.out k l hl
   obtain ⟨b2, y, rfl, hc2, ao4, cap4, rfl, hr2⟩ := HM2.out k l hl
   have hll := hb'.out.poly l (Pl.mem_of_some hl)
   have hrr := hide (hb'.out.ring l (Pl.mem_of_some hl))
   have hr' := hide hr
   have hr2' := hide hr2
   have gc := hdr'.out.up.cell hc
   have gc2 := hdr'.out.up.cell hc2
   have hcH := hide hc
   have hcH2 := hide hc2
   clear hl hr hr2 hc hc2
   go_wp2
   go_quiet (fail)
   go_wp2
   go_loopw [6] (fun j wr => ∃ q : Nat, q ≤ l.length ∧ j = .int .i64 q ∧ Hid (Dr w wr)) (fun j _ => l.length - (intOf j).toNat)
   case atStart => exact ⟨0, Nat.zero_le _, rfl, hdr'.out.n _⟩
   case round =>
    obtain ⟨q, hq, rfl, hdq'⟩ := hrel
    have ec := hdq'.out.up.cell hcH.out
    have ec2 := hdq'.out.up.cell hcH2.out
    clear gc gc2
    by_cases hlq : q < l.length
    ·obtain ⟨r, hr1⟩ := Pl.some_of_lt hlq
     obtain ⟨b3, x3, rfl, hc3, ao5, cap5, rfl, hd3⟩ := hr'.out q r hr1
     obtain ⟨b4, x4, rfl, hc4, ao6, cap6, rfl, hd4⟩ := hr2'.out q r hr1
     have hrl := hrr.out r (Pl.mem_of_some hr1)
     have HD3 := hide hd3
     have HD4 := hide hd4
     have gc3 := hdq'.out.up.cell hc3
     have gc4 := hdq'.out.up.cell hc4
     have hcH3 := hide hc3
     have hcH4 := hide hc4
     clear hr1 hd3 hd4 hc3 hc4
     go_wp2
     go_quiet (fail)
     go_wp2
     go_loopw [7] (fun j wr => ∃ z : Nat, z ≤ r.length ∧ j = .int .i64 z ∧ Hid (Dr w wr)) (fun j _ => r.length - (intOf j).toNat)
     case atStart => exact ⟨0, Nat.zero_le _, rfl, hdq'.out.n _⟩
     case round =>
      obtain ⟨z, hz, rfl, hdz'⟩ := hrel
      clear ec ec2 gc3 gc4
      have ec := hdz'.out.up.cell hcH.out
      have ec2 := hdz'.out.up.cell hcH2.out
      have gc3 := hdz'.out.up.cell hcH3.out
      have gc4 := hdz'.out.up.cell hcH4.out
      by_cases hlz : z < r.length
      ·obtain ⟨p, hp⟩ := Pl.some_of_lt hlz
       obtain ⟨b5, rfl, hx, hy⟩ := HD3.out z p hp
       obtain ⟨b6, rfl, hx2, hy2⟩ := HD4.out z p hp
       have k1 := hdz'.out.up.cell hx
       have k2 := hdz'.out.up.cell hy
       have k3 := hdz'.out.up.cell hx2
       have k4 := hdz'.out.up.cell hy2
       obtain ⟨px, py⟩ := p
       dsimp only at k1 k2 k3 k4
       clear hp hx hy hx2 hy2
       go_wp2
       refine wp_region_quiet_lit (by kernel_rfl) (by kernel_rfl) ?_
       repeat (first | go_big_quiet_step (fail) | quiet_step (fail))
       refine wpQuiet_nil ?_
       intro _ hw'
       obtain ⟨nq, hw''⟩ := hw'
       subst hw''
       go_wp2
       go_roundw
       case rel => exact ⟨z + 1, by omega, by go_num, hdz'.out.n _⟩
       case measure => simp [intOf]; omega
      ·have : z = r.length := by omega
       subst this
       go_wp2
       go_roundw
       case rel => exact ⟨q + 1, by omega, by go_num, hdz'.out⟩
       case measure => simp [intOf]; omega
    ·have : q = l.length := by omega
     subst this
     go_wp2
     go_roundw
     case rel => exact ⟨k + 1, by omega, by go_num, hdq'.out⟩
     case measure => simp [intOf]; omega
  ·have : k = m.length := by omega
   subst this
   go_wp2
   go_ret
   exact ⟨rfl, hdr'.out⟩
set_option maxHeartbeats 2000000 in
theorem pick3_any (c : Int) (h1 : -9223372036854775808 ≤ c) (h2 : c ≤ 9223372036854775807) (w : World) :
  Calls Tryz.prog 14 #[.int .i64 c, .int .i64 3] w fun e w' => ∃ f : Int, e = .returned (.int .i64 f) ∧ (f = 0 ∨ f = 1 ∨ f = 2) ∧ w' = w := by
 by_cases h0 : c < 0
 ·have e1 : wrap64 (c + 1) = c + 1 := by unfold wrap64; omega
  have e2 : wrap64 (-(c + 1)) = -(c + 1) := by unfold wrap64; omega
  obtain ⟨d, hd⟩ : ∃ d, d = -(c + 1) := ⟨_, rfl⟩
  have hd0 : 0 ≤ d := by omega
  go_enter Tryz.func14, Tryz.ntmps14
  go_wp2
  go_ret
  refine ⟨_, rfl, ?_, rfl⟩
  rw [← Int.neg_tmod, Int.tmod_eq_emod_of_nonneg (by omega)]
  omega
 ·go_enter Tryz.func14, Tryz.ntmps14
  go_wp2
  go_ret
  refine ⟨_, rfl, ?_, rfl⟩
  omega
end Go.Proofs.YtcclepohmhdpbabGreatDoor
namespace Go.Proofs.YtcclepohmhdpbabGreatDoor
set_option linter.all false
namespace Bn
theorem or_low (a b i : Nat) (hb : b < 2 ^ i) : (a * 2 ^ i) ||| b = a * 2 ^ i + b := by
 rw [Nat.mul_comm]
 exact (Nat.two_pow_add_eq_or_of_lt hb a).symm
theorem u64_byte (v b : Nat) (hv : v < 72057594037927936) (hb : b < 256) : bits .or .u64 ((v : Int) * 256) (b : Int) = ((v * 256 + b : Nat) : Int) := by
 have h := bits_or_u64_nat (v * 256) b (by omega) (by omega)
 have e : ((v * 256 : Nat) : Int) = (v : Int) * 256 := by omega
 rw [e] at h
 rw [h, show 256 = 2 ^ 8 from rfl, or_low v b 8 hb]
theorem u64_mask (x : Nat) (n m : Nat) (hx : x < 18446744073709551616) (hm : m = 2 ^ n - 1) (hn : m < 18446744073709551616) : bits .and .u64 (x : Int) (m : Int) = ((x % 2 ^ n : Nat) : Int) := by
 rw [bits_and_u64_nat x m hx hn, hm, Nat.and_two_pow_sub_one_eq_mod]
theorem u64_first (x : Nat) (hx : x < 4503599627370496) : bits .or .u64 (x : Int) 4503599627370496 = ((x + 4503599627370496 : Nat) : Int) := by
 have h := bits_or_u64_nat x 4503599627370496 (by omega) (by omega)
 rw [show ((4503599627370496 : Nat) : Int) = 4503599627370496 from rfl] at h
 rw [h, Nat.or_comm]
 have := or_low 1 x 52 (by simpa using hx)
 simp only [Nat.one_mul, show 2 ^ 52 = 4503599627370496 from rfl] at this
 rw [this, Nat.add_comm]
theorem and_sign (x : Nat) (hx : x < 18446744073709551616) : x &&& 9223372036854775808 = if 9223372036854775808 ≤ x then 9223372036854775808 else 0 := by
 have h1 : (x &&& 2 ^ 63) / 2 ^ 63 = x / 2 ^ 63 &&& 2 ^ 63 / 2 ^ 63 := Nat.and_div_two_pow
 have h2 : (x &&& 2 ^ 63) % 2 ^ 63 = x % 2 ^ 63 &&& 2 ^ 63 % 2 ^ 63 := Nat.and_mod_two_pow
 rw [show (2 ^ 63 : Nat) = 9223372036854775808 from rfl] at h1 h2
 rw [show (9223372036854775808 : Nat) / 9223372036854775808 = 1 from rfl] at h1
 rw [show (9223372036854775808 : Nat) % 9223372036854775808 = 0 from rfl, Nat.and_zero] at h2
 generalize x &&& 9223372036854775808 = y at *
 by_cases hs : 9223372036854775808 ≤ x
 ·rw [show x / 9223372036854775808 = 1 by omega, Nat.and_self] at h1
  rw [if_pos hs]
  omega
 ·rw [show x / 9223372036854775808 = 0 by omega, Nat.zero_and] at h1
  rw [if_neg hs]
  omega
theorem u64_sign (x : Nat) (hx : x < 18446744073709551616) : bits .and .u64 (x : Int) 9223372036854775808 = if 9223372036854775808 ≤ x then 9223372036854775808 else 0 := by
 have h := bits_and_u64_nat x 9223372036854775808 hx (by omega)
 rw [show ((9223372036854775808 : Nat) : Int) = 9223372036854775808 from rfl] at h
 rw [h, and_sign x hx]
 split <;> rfl
end Bn
open Go.RowKit Go.Deep
def bs (l : List UInt8) : ByteArray := ⟨l.toArray⟩
theorem bs_size (l : List UInt8) : (bs l).size = l.length := by simp [bs, ByteArray.size]
theorem bs_toList (l : List UInt8) : (bs l).toList = l := by simp [bs]
theorem bs_get (l : List UInt8) (i : Nat) (h : i < (bs l).size) : (bs l)[i]'h = l[i]'(by simpa [bs_size] using h) := by
 simp [bs, ByteArray.getElem_eq_getElem_data]
theorem bs_extract (l : List UInt8) (a b : Nat) : (bs l).extract a b = bs ((l.drop a).take (b - a)) := by
 simp [bs, Lib.extract_eq]
theorem bs_drop (l : List UInt8) (a : Nat) : (bs l).extract a l.length = bs (l.drop a) := by
 rw [bs_extract]; congr 1; apply List.take_of_length_le; simp
theorem bs_take (l : List UInt8) (b : Nat) : (bs l).extract 0 b = bs (l.take b) := by
 rw [bs_extract]; simp
theorem bs_append (a b : List UInt8) : bs a ++ bs b = bs (a ++ b) := by
 simp [bs, ByteArray.mk_append_mk]
theorem bs_of (s : ByteArray) : s = bs s.data.toList := by simp [bs]
namespace Tx
def at_ (l : List UInt8) (i : Nat) : Int := match l[i]? with
 | some c => (c.toNat : Int)
 | none => -1
def blank (x : Int) : Bool := x == 32 || x == 9 || x == 10 || x == 13
def digit (x : Int) : Bool := decide (48 ≤ x) && decide (x ≤ 57)
def bare (l : List UInt8) : List UInt8 := l.dropWhile fun c => blank c.toNat
def lead (l : List UInt8) : Nat := (l.takeWhile fun c => digit c.toNat).length
theorem at_nil (i : Nat) : at_ [] i = -1 := rfl
theorem at_zero (c : UInt8) (r : List UInt8) : at_ (c :: r) 0 = c.toNat := rfl
theorem at_lt {l : List UInt8} {i : Nat} (h : i < l.length) : at_ l i = (l[i].toNat : Int) := by simp [at_, h]
theorem at_ge {l : List UInt8} {i : Nat} (h : ¬ i < l.length) : at_ l i = -1 := by simp [at_, Nat.le_of_not_lt h]
theorem lt_of_at {l : List UInt8} {i : Nat} (h : at_ l i ≠ -1) : i < l.length := by
 by_cases k : i < l.length
 ·exact k
 ·exact absurd (at_ge k) h
theorem at_nn {l : List UInt8} {i : Nat} (h : i < l.length) : 0 ≤ at_ l i ∧ at_ l i ≤ 255 := by
 rw [at_lt h]; have := l[i].toNat_lt; omega
theorem at_drop (l : List UInt8) (k i : Nat) : at_ (l.drop k) i = at_ l (k + i) := by simp [at_]
theorem drop_cons {l : List UInt8} {k : Nat} (h : k < l.length) : l.drop k = l[k] :: l.drop (k + 1) := List.drop_eq_getElem_cons h
theorem bare_cons (c : UInt8) (r : List UInt8) : bare (c :: r) = if blank c.toNat then bare r else c :: r := by
 cases h : blank c.toNat <;> simp [bare, List.dropWhile_cons, h]
theorem bare_le (l : List UInt8) : (bare l).length ≤ l.length := by
 induction l with
 | nil => simp [bare]
 | cons c r ih => rw [bare_cons]; split <;> simp <;> omega
theorem lead_cons (c : UInt8) (r : List UInt8) : lead (c :: r) = if digit c.toNat then lead r + 1 else 0 := by
 cases h : digit c.toNat <;> simp [lead, List.takeWhile_cons, h]
theorem lead_drop {l : List UInt8} {n : Nat} (hn : n < l.length) (h : lead l = n + lead (l.drop n)) : lead l = if digit (at_ l n) then n + 1 + lead (l.drop (n + 1)) else n := by
 rw [h, drop_cons hn, lead_cons, at_lt hn]; split <;> omega
theorem lead_end {l : List UInt8} {n : Nat} (hn : ¬ n < l.length) (h : lead l = n + lead (l.drop n)) : lead l = n := by
 rw [h, List.drop_of_length_le (Nat.le_of_not_lt hn)]; rfl
theorem lead_le (l : List UInt8) : lead l ≤ l.length := by
 induction l with
 | nil => simp [lead]
 | cons c r ih => rw [lead_cons]; split <;> simp <;> omega
end Tx
structure Tells (S : ByteArray) (l : List UInt8) : Prop where
 size : S.size = l.length
 get : ∀ i (h : i < S.size), ((S[i]'h).toNat : Int) = Tx.at_ l i
 drop : ∀ a, S.extract a l.length = bs (l.drop a)
 take : ∀ b, S.extract 0 b = bs (l.take b)
 list : S.toList = l
 out : S = bs l
theorem tells_of {S : ByteArray} {l : List UInt8} (h : bs l = S) : Tells S l := by
 subst h
 exact ⟨bs_size l, fun i h => by rw [bs_get, Tx.at_lt], bs_drop l, bs_take l, bs_toList l, rfl⟩
theorem tells (l : List UInt8) : ∃ S, bs l = S ∧ Tells S l := ⟨_, rfl, tells_of rfl⟩
theorem bs_tells (l : List UInt8) : Tells (bs l) l :=
 ⟨bs_size l, fun i h => by rw [bs_get, Tx.at_lt], bs_drop l, bs_take l, bs_toList l, rfl⟩
structure Fr (S : Nat → Prop) (w w' : World) : Prop where
 os : w'.os = w.os
 tape : w'.tape = w.tape
 output : w'.output = w.output
 size : w.heap.size ≤ w'.heap.size
 block : ∀ b, b < w.heap.size → ¬ S b → w'.heap[b]? = w.heap[b]?
theorem Fr.refl (S : Nat → Prop) (w : World) : Fr S w w := ⟨rfl, rfl, rfl, Nat.le_refl _, fun _ _ _ => rfl⟩
theorem Fr.trans {S : Nat → Prop} {a b c : World} (h : Fr S a b) (k : Fr S b c) : Fr S a c :=
 ⟨k.os.trans h.os, k.tape.trans h.tape, k.output.trans h.output, Nat.le_trans h.size k.size, fun i hi hs => (k.block i (Nat.lt_of_lt_of_le hi h.size) hs).trans (h.block i hi hs)⟩
theorem Fr.of_up {S : Nat → Prop} {a b : World} (h : Up a b) : Fr S a b := ⟨h.os, h.tape, h.output, h.size, fun i hi _ => h.block i hi⟩
theorem Fr.up {S : Nat → Prop} {a b : World} (h : Fr S a b) (k : ∀ x, x < a.heap.size → ¬ S x) : Up a b := ⟨h.os, h.tape, h.output, h.size, fun i hi => h.block i hi (k i hi)⟩
theorem Fr.alloc {S : Nat → Prop} {a b : World} (h : Fr S a b) (o : Obj) : Fr S a (b.alloc o) := h.trans (Fr.of_up ((Up.refl _).alloc o))
theorem Fr.drewN {S : Nat → Prop} {a b : World} (h : Fr S a b) (n : Nat) : Fr S a (b.drewN n) := h.trans (Fr.of_up ((Up.refl _).drewN n))
theorem Fr.drew {S : Nat → Prop} {a b : World} (h : Fr S a b) : Fr S a b.drew := h.trans (Fr.of_up (Up.refl _).drew)
theorem Fr.setCell {S : Nat → Prop} {a b : World} (h : Fr S a b) {p : Addr} (hp : S p.block) (u : Value) : Fr S a (b.setCell p u) :=
 h.trans ⟨rfl, rfl, rfl, by simp [World.setCell], fun k _ hs => Below.heap_setCell _ _ _ _ (fun e => hs (e ▸ hp))⟩
theorem Fr.setNew {S : Nat → Prop} {a b : World} (h : Fr S a b) {p : Addr} (hp : a.heap.size ≤ p.block) (u : Value) : Fr S a (b.setCell p u) :=
 ⟨h.os, h.tape, h.output, by simpa [World.setCell] using h.size, fun k hk hs => (Below.heap_setCell _ _ _ _ (by omega)).trans (h.block k hk hs)⟩
theorem Fr.grown {S : Nat → Prop} {a b c : World} (h : Fr S a b) {row : Option Nat} (hg : b.grownBy c row) (hr : ∀ k, row = some k → S k ∨ a.heap.size ≤ k) : Fr S a c :=
 ⟨hg.os.trans h.os, hg.tape.trans h.tape, hg.output.trans h.output, Nat.le_trans h.size hg.size, fun i hi hs => (hg.block i (Nat.lt_of_lt_of_le hi h.size) (fun e => by
  rcases hr i e.symm with h1 | h1
  ·exact hs h1
  ·omega)).trans (h.block i hi hs)⟩
theorem Fr.row {S : Nat → Prop} {a c : World} (h : Fr S a c) {b : Nat} {t : TypeId} {vs : List Value} (hv : VRow a b t vs) (hs : ¬ S b) : VRow c b t vs := hv.of_block (h.block b hv.lt hs)
def RF1 (F : Nat → Prop) (w : World) (v : Value) (r : Ring) : Prop :=
 ∃ ao cap, v = .slice ao r.length cap ∧ ∀ i p, r[i]? = some p → ∃ b, F b ∧ ao = some ⟨b, 0, none⟩ ∧ w.cell? ⟨b, i * 2, none⟩ = some (.int .i64 p.1) ∧ w.cell? ⟨b, i * 2 + 1, none⟩ = some (.int .i64 p.2)
def RF2 (F : Nat → Prop) (w : World) (v : Value) (l : Poly) : Prop :=
 ∃ ao cap, v = .slice ao l.length cap ∧ ∀ i r, l[i]? = some r → ∃ b u, F b ∧ ao = some ⟨b, 0, none⟩ ∧ w.cell? ⟨b, i, none⟩ = some u ∧ RF1 F w u r
def RF3 (F : Nat → Prop) (w : World) (v : Value) (m : Mult) : Prop :=
 ∃ ao cap, v = .slice ao m.length cap ∧ ∀ i l, m[i]? = some l → ∃ b u, F b ∧ ao = some ⟨b, 0, none⟩ ∧ w.cell? ⟨b, i, none⟩ = some u ∧ RF2 F w u l
def RB (w : World) (b : Nat) (l : List UInt8) (ord : Nat) (bad off : Bool) : Prop := VRow w b 83 [.string (bs l), .int .u64 ord, .bool bad, .bool off]
theorem RB.c0 {w : World} {b : Nat} {l : List UInt8} {ord : Nat} {bad off : Bool} (h : RB w b l ord bad off) : w.cell? ⟨b, 0, none⟩ = some (.string (bs l)) := VRow.cell h rfl
theorem RB.c1 {w : World} {b : Nat} {l : List UInt8} {ord : Nat} {bad off : Bool} (h : RB w b l ord bad off) : w.cell? ⟨b, 1, none⟩ = some (.int .u64 ord) := VRow.cell h rfl
theorem RB.c2 {w : World} {b : Nat} {l : List UInt8} {ord : Nat} {bad off : Bool} (h : RB w b l ord bad off) : w.cell? ⟨b, 2, none⟩ = some (.bool bad) := VRow.cell h rfl
theorem RB.c3 {w : World} {b : Nat} {l : List UInt8} {ord : Nat} {bad off : Bool} (h : RB w b l ord bad off) : w.cell? ⟨b, 3, none⟩ = some (.bool off) := VRow.cell h rfl
theorem RB.f {w : World} {b : Nat} {l : List UInt8} {ord : Nat} {bad off : Bool} (h : RB w b l ord bad off) (i : Nat) : w.frozen? ⟨b, i, none⟩ = false := VRow.frozen h i
theorem RB.rest {w : World} {b : Nat} {l : List UInt8} {ord : Nat} {bad off : Bool} (h : RB w b l ord bad off) (t : List UInt8) : RB (w.setCell ⟨b, 0, none⟩ (.string (bs t))) b t ord bad off := VRow.set h 0 _
theorem RB.ord {w : World} {b : Nat} {l : List UInt8} {ord : Nat} {bad off : Bool} (h : RB w b l ord bad off) (o : Nat) : RB (w.setCell ⟨b, 1, none⟩ (.int .u64 o)) b l o bad off := VRow.set h 1 _
theorem RB.bad {w : World} {b : Nat} {l : List UInt8} {ord : Nat} {bad off : Bool} (h : RB w b l ord bad off) (o : Bool) : RB (w.setCell ⟨b, 2, none⟩ (.bool o)) b l ord o off := VRow.set h 2 _
theorem RB.off {w : World} {b : Nat} {l : List UInt8} {ord : Nat} {bad off : Bool} (h : RB w b l ord bad off) (o : Bool) : RB (w.setCell ⟨b, 3, none⟩ (.bool o)) b l ord bad o := VRow.set h 3 _
namespace Bn
theorem num_step (lit : Bool) {l : List UInt8} {n k : Nat} (hk : k < n) (hn : n ≤ l.length) :
  (big ((ord lit (l.take n)).take (k + 1)) : Int) = (big ((ord lit (l.take n)).take k) : Int) * 256 + Tx.at_ l (if lit = true then n - 1 - k else k) := by
 have hq : (ord lit (l.take n)).length = n := by rw [ord_length, List.length_take]; omega
 have e : (ord lit (l.take n)).take (k + 1) = (ord lit (l.take n)).take k ++ [(ord lit (l.take n))[k]'(by omega)] := List.take_succ_eq_append_getElem (by omega)
 have e2 : ((ord lit (l.take n))[k]'(by omega)).toNat = Tx.at_ l (if lit = true then n - 1 - k else k) := by
  cases lit
  ·simp only [ord]
   simp only [Bool.false_eq_true, if_false]
   rw [Tx.at_lt (by omega)]
   simp
  ·simp only [ord, if_true]
   rw [Tx.at_lt (by omega), List.getElem_reverse, List.getElem_take]
   have : (List.take n l).length - 1 - k = n - 1 - k := by rw [List.length_take]; omega
   simp only [this]
 rw [e, big_snoc, ← e2]
 omega
theorem take_lt (lit : Bool) {l : List UInt8} {n k : Nat} (hk : k < n) (hn : n ≤ 8) (hl : n ≤ l.length) : big ((ord lit (l.take n)).take k) < 72057594037927936 := by
 have h := big_lt ((ord lit (l.take n)).take k)
 have hq : ((ord lit (l.take n)).take k).length ≤ 7 := by rw [List.length_take]; omega
 have : 256 ^ ((ord lit (l.take n)).take k).length ≤ 256 ^ 7 := Nat.pow_le_pow_right (by omega) hq
 have e : 256 ^ 7 = 72057594037927936 := rfl
 omega
theorem num_end (lit : Bool) {l : List UInt8} {n : Nat} (hn : n ≤ l.length) : big ((ord lit (l.take n)).take n) = num lit (l.take n) := by
 unfold num
 rw [List.take_of_length_le]
 rw [ord_length, List.length_take]; omega
theorem byte_close {V V2 : Nat} {a : Int} (hv : V < 72057594037927936) (ha : 0 ≤ a ∧ a ≤ 255) (h : (V2 : Int) = V * 256 + a) : Value.int .u64 (bits .or .u64 ((V : Int) * 256) a) = .int .u64 (V2 : Int) := by
 obtain ⟨b, rfl⟩ := Int.eq_ofNat_of_zero_le ha.1
 rw [u64_byte V b hv (by omega), h]
 congr 1
end Bn
set_option maxHeartbeats 1000000 in
theorem rnum_bad (n : Nat) (l : List UInt8) (o : Nat) (off bad : Bool) (rb : Nat) (w : World) (hr : RB w rb l o bad off) (hb : bad = true ∨ l.length < n) (hl : l.length ≤ 6000) (hn : n ≤ 8) :
  Calls Tryz.prog 114 #[.pointer (some ⟨rb, 0, none⟩), .int .i64 n] w fun e w' => e = .returned (.int .u64 0) ∧ RB w' rb l o true off ∧ Fr (· = rb) w w' := by
 have e0 := bs_size l
 have c0 := hr.c0
 have c2 := hr.c2
 have f2 := hr.f 2
 have HR := hide hr
 clear hr
 cases bad
 ·have hb' : l.length < n := hb.resolve_left (by decide)
  clear hb
  go_enter Tryz.func114, Tryz.ntmps114
  go_wp2
  go_ret
  exact ⟨rfl, HR.out.bad true, (Fr.refl (· = rb) _).setCell (p := ⟨rb, 2, none⟩) rfl _⟩
 ·clear hb
  go_enter Tryz.func114, Tryz.ntmps114
  go_wp2
  go_ret
  exact ⟨rfl, HR.out.bad true, (Fr.refl (· = rb) _).setCell (p := ⟨rb, 2, none⟩) rfl _⟩
set_option maxRecDepth 100000 in
set_option maxHeartbeats 2000000 in
theorem rnum_ok (n : Nat) (l : List UInt8) (o : Nat) (off : Bool) (rb : Nat) (w : World) (hr : RB w rb l o false off) (hl : ¬ l.length < n) (hl6 : l.length ≤ 6000) (hn : n ≤ 8) (lit : Bool) (hlit : lit = ((o : Int) == 1)) :
  Calls Tryz.prog 114 #[.pointer (some ⟨rb, 0, none⟩), .int .i64 n] w fun e w' => e = .returned (.int .u64 (Bn.num lit (l.take n))) ∧ RB w' rb (l.drop n) o false off ∧ Fr (· = rb) w w' := by
 obtain ⟨e0, e1, e2, e3, e4, e5⟩ := bs_tells l
 have c0 := hr.c0
 have c1 := hr.c1
 have c2 := hr.c2
 have f0 := hr.f 0
 have HR := hide hr
 clear e3 e4 e5 hr
 go_enter Tryz.func114, Tryz.ntmps114
 go_wp2
 go_loop [5, 6] (fun v i => ∃ k : Nat, k ≤ n ∧ i = .int .i64 k ∧ v = .int .u64 (Bn.big ((Bn.ord lit (l.take n)).take k) : Nat)) (fun _ i => n - (intOf i).toNat)
 case atStart => exact ⟨0, Nat.zero_le _, rfl, by simp [Bn.big, Bn.bigA]⟩
 case round =>
  obtain ⟨k, hk, rfl, rfl⟩ := hrel
  by_cases hlt : k < n
  ·have HS := hide (Bn.num_step lit hlt (Nat.le_of_not_lt hl))
   have hv := Bn.take_lt lit hlt hn (Nat.le_of_not_lt hl)
   generalize hV : Bn.big ((Bn.ord lit (l.take n)).take k) = V at *
   generalize hV2 : Bn.big ((Bn.ord lit (l.take n)).take (k + 1)) = V2 at *
   have HV2 := hide hV2
   clear hV hV2
   cases lit
   ·have ho := hlit.symm
    clear hlit
    have HX : Hid ((V2 : Int) = V * 256 + Tx.at_ l k) := HS.out
    have hat := Tx.at_nn (l := l) (i := k) (by omega)
    clear HS
    go_wp2
    go_round
    case rel => exact ⟨k + 1, by omega, by go_num, by rw [HV2.out]; exact Bn.byte_close hv hat HX.out⟩
    case measure => simp [intOf]; omega
   ·have ho := hlit.symm
    clear hlit
    have HX : Hid ((V2 : Int) = V * 256 + Tx.at_ l (n - 1 - k)) := HS.out
    have hat := Tx.at_nn (l := l) (i := n - 1 - k) (by omega)
    clear HS
    go_wp2
    go_round
    case rel => exact ⟨k + 1, by omega, by go_num, by rw [HV2.out]; exact Bn.byte_close hv hat HX.out⟩
    case measure => simp [intOf]; omega
  ·have hkn : k = n := by omega
   subst hkn
   have HE := hide (Bn.num_end lit (Nat.le_of_not_lt hl))
   rw [HE.out]
   clear HE
   go_wp2
   go_ret
   exact ⟨rfl, HR.out.rest _, (Fr.refl (· = rb) _).setCell (p := ⟨rb, 0, none⟩) rfl _⟩
def optI : Option Int → Value
 | some k => .tuple #[.int .i64 k, .bool true]
 | none => .tuple #[.int .i64 0, .bool false]
set_option maxRecDepth 100000 in
set_option maxHeartbeats 2000000 in
theorem wunits_any (X : Nat) (w : World) (hX : X < 18446744073709551616) :
  Calls Tryz.prog 152 #[.int .u64 X] w fun e w' => e = .returned (optI (Bn.units X)) ∧ w' = w := by
 by_cases h0 : X = 0
 ·subst h0
  go_enter Tryz.func152, Tryz.ntmps152
  go_wp2
  go_ret2
  exact ⟨rfl, rfl⟩
 ·have h0b : ((X : Int) == 0) = false := beq_eq_false_iff_ne.2 (by omega)
  have hE : X / 4503599627370496 % 2048 < 2048 := Nat.mod_lt _ (by omega)
  have q1 : bits .and .u64 ((X : Int) / 4503599627370496) 2047 = ((X / 4503599627370496 % 2048 : Nat) : Int) := by
   have := Bn.u64_mask (X / 4503599627370496) 11 2047 (by omega) rfl (by omega)
   simpa using this
  have HU := hide (show Bn.units X = _ by unfold Bn.units; rw [if_neg h0])
  obtain ⟨E, hE1⟩ : ∃ E, E = X / 4503599627370496 % 2048 := ⟨_, rfl⟩
  rw [← hE1] at HU q1 hE
  have HE := hide hE1
  clear hE1
  by_cases h1 : E < 1019
  ·have HV : Hid (Bn.units X = none) := by rw [HU.out, if_pos (.inl h1)]; exact rfl
   clear HU
   go_enter Tryz.func152, Tryz.ntmps152
   go_wp2
   go_ret2
   rw [HV.out]
   exact ⟨rfl, rfl⟩
  ·by_cases h2 : 1071 < E
   ·have HV : Hid (Bn.units X = none) := by rw [HU.out, if_pos (.inr h2)]; exact rfl
    clear HU
    go_enter Tryz.func152, Tryz.ntmps152
    go_wp2
    go_ret2
    rw [HV.out]
    exact ⟨rfl, rfl⟩
   ·obtain ⟨p, hp⟩ : ∃ p, E = p + 1019 := ⟨E - 1019, by omega⟩
    have hp2 : p ≤ 52 := by omega
    have e1 : 1071 - E = 52 - p := by omega
    have e2 : (E : Int) = (p : Int) + 1019 := by omega
    have e3 : ¬ (E < 1019 ∨ 1071 < E) := by omega
    rw [e2] at q1
    rw [if_neg e3, e1] at HU
    clear e1 e2 e3 hp h1 h2 hE HE
    have q2 : bits .and .u64 (X : Int) 4503599627370495 = ((X % 4503599627370496 : Nat) : Int) := by
     have := Bn.u64_mask X 52 4503599627370495 hX rfl (by omega)
     simpa using this
    have q3 := Bn.u64_first (X % 4503599627370496) (Nat.mod_lt _ (by omega))
    have hM : X % 4503599627370496 + 4503599627370496 < 9007199254740992 := by omega
    obtain ⟨L, hL⟩ : ∃ L, L = X % 4503599627370496 := ⟨_, rfl⟩
    rw [← hL] at q2 q3 HU hM
    obtain ⟨M, hM1⟩ : ∃ M, M = L + 4503599627370496 := ⟨_, rfl⟩
    rw [← hM1] at q3 HU hM
    clear hL hM1
    have q4 := Bn.u64_sign X hX
    obtain ⟨Q, hQ⟩ : ∃ Q, Q = M / 2 ^ (52 - p) := ⟨_, rfl⟩
    obtain ⟨S, hS⟩ : ∃ S, S = Q * 2 ^ (52 - p) := ⟨_, rfl⟩
    have r1 : (M : Int) / 2 ^ (52 - p) = (Q : Int) := by rw [hQ]; simp
    have r2 : (Q : Int) * 2 ^ (52 - p) = (S : Int) := by rw [hS]; simp
    have hSM : S ≤ M := by rw [hS, hQ]; exact Nat.div_mul_le_self _ _
    have hQM : Q ≤ M := by rw [hQ]; exact Nat.div_le_self _ _
    have HSM : Hid (M % 2 ^ (52 - p) = M - S) := by
     have := Nat.div_add_mod M (2 ^ (52 - p))
     rw [Nat.mul_comm, ← hQ, ← hS] at this
     show _ = _
     omega
    rw [← hQ, HSM.out] at HU
    clear hQ hS HSM
    by_cases hs : S = M
    ·by_cases hq : 32768 < Q
     ·have HV : Hid (Bn.units X = none) := by rw [HU.out, if_pos (.inr hq)]; exact rfl
      clear HU
      subst hs
      have hqi : (32768 : Int) < (Q : Int) := by omega
      go_enter Tryz.func152, Tryz.ntmps152
      go_wp2
      go_ret2
      rw [HV.out]
      exact ⟨rfl, rfl⟩
     ·rw [if_neg (by omega)] at HU
      subst hs
      have hqi : ¬ (32768 : Int) < (Q : Int) := by omega
      by_cases hx : 9223372036854775808 ≤ X
      ·rw [if_pos hx] at HU q4
       go_enter Tryz.func152, Tryz.ntmps152
       go_wp2
       go_ret2
       rw [HU.out]
       exact ⟨rfl, rfl⟩
      ·rw [if_neg hx] at HU q4
       go_enter Tryz.func152, Tryz.ntmps152
       go_wp2
       go_ret2
       rw [HU.out]
       exact ⟨rfl, rfl⟩
    ·have HV : Hid (Bn.units X = none) := by rw [HU.out, if_pos (.inl (by omega))]; exact rfl
     have hne : ((S : Int) == (M : Int)) = false := beq_eq_false_iff_ne.2 (by omega)
     have hlt : S < M := by omega
     clear HU
     go_enter Tryz.func152, Tryz.ntmps152
     go_wp2
     go_ret2
     rw [HV.out]
     exact ⟨rfl, rfl⟩
theorem RB.facts {w : World} {b : Nat} {l : List UInt8} {o : Nat} {bad off : Bool} (h : RB w b l o bad off) :
  w.cell? ⟨b, 0, none⟩ = some (.string (bs l)) ∧ w.cell? ⟨b, 1, none⟩ = some (.int .u64 o) ∧ w.cell? ⟨b, 2, none⟩ = some (.bool bad) ∧ w.cell? ⟨b, 3, none⟩ = some (.bool off) ∧ w.frozen? ⟨b, 0, none⟩ = false ∧ w.frozen? ⟨b, 1, none⟩ = false ∧ w.frozen? ⟨b, 2, none⟩ = false ∧ w.frozen? ⟨b, 3, none⟩ = false :=
 ⟨h.c0, h.c1, h.c2, h.c3, h.f 0, h.f 1, h.f 2, h.f 3⟩
set_option maxHeartbeats 1000000 in
theorem rcoord_bad (l : List UInt8) (o : Nat) (off bad : Bool) (rb : Nat) (w : World) (hr : RB w rb l o bad off) (hb : bad = true ∨ l.length < 8) (hl : l.length ≤ 6000) :
  Calls Tryz.prog 142 #[.pointer (some ⟨rb, 0, none⟩)] w fun e w' => e = .returned (.int .i64 0) ∧ RB w' rb l o true off ∧ Fr (· = rb) w w' := by
 have HR := hide hr
 have HB := hide hb
 have HU : Hid (optI (Bn.units 0) = .tuple #[.int .i64 0, .bool true]) := rfl
 clear hr hb
 go_enter Tryz.func142, Tryz.ntmps142
 go_wp2_with fail
 refine (rnum_bad 8 l o off bad rb _ HR.out HB.out hl (by omega)).mono ?_
 rintro e w1 ⟨rfl, h1, u1⟩
 replace h1 := hide h1
 replace u1 := hide u1
 go_wp2_with fail
 refine (wunits_any 0 _ (by omega)).mono ?_
 rintro e w2 ⟨rfl, rfl⟩
 rw [HU.out]
 go_wp2
 go_ret
 exact ⟨rfl, h1.out, u1.out⟩
set_option maxHeartbeats 1000000 in
theorem rcoord_ok (l : List UInt8) (o : Nat) (off : Bool) (rb : Nat) (w : World) (hr : RB w rb l o false off) (hl : ¬ l.length < 8) (hl6 : l.length ≤ 6000) (lit : Bool) (hlit : lit = ((o : Int) == 1)) :
    Calls Tryz.prog 142 #[.pointer (some ⟨rb, 0, none⟩)] w fun e w' => e = .returned (.int .i64 (Bn.coord (Bn.num lit (l.take 8)))) ∧ RB w' rb (l.drop 8) o false (off || (Bn.units (Bn.num lit (l.take 8))).isNone) ∧ Fr (· = rb) w w' := by
  have HR := hide hr
  have HL := hide hlit
  clear hr hlit
  have hX : Bn.num lit (l.take 8) < 18446744073709551616 := Bn.num_lt8 (by rw [List.length_take]; omega)
  obtain ⟨X, hX1⟩ : ∃ X, X = Bn.num lit (l.take 8) := ⟨_, rfl⟩
  rw [← hX1] at hX ⊢
  have HX := hide hX1
  clear hX1
  go_enter Tryz.func142, Tryz.ntmps142
  go_wp2_with fail
  refine (rnum_ok 8 l o off rb _ HR.out hl hl6 (by omega) lit HL.out).mono ?_
  rintro e w1 ⟨rfl, h1, u1⟩
  rw [← HX.out]
  obtain ⟨-, -, -, c3, -, -, -, f3⟩ := h1.facts
  replace h1 := hide h1
  replace u1 := hide u1
  go_wp2_with fail
  refine (wunits_any X _ hX).mono ?_
  rintro e w2 ⟨rfl, rfl⟩
  obtain ⟨U, hU⟩ : ∃ U, U = Bn.units X := ⟨_, rfl⟩
  rw [← hU]
  have HU := hide hU
  clear hU
  cases U with
  | none =>
    rw [optI]
    go_wp2
    go_ret
    unfold Bn.coord
    rw [← HU.out]
    refine ⟨rfl, ?_, u1.out.setCell (p := ⟨rb, 3, none⟩) rfl _⟩
    have := h1.out.off true
    simpa using this
  | some k =>
    rw [optI]
    go_wp2
    go_ret
    unfold Bn.coord
    rw [← HU.out]
    refine ⟨rfl, ?_, u1.out⟩
    have := h1.out
    simpa using this
namespace Bn
theorem num_one (lit : Bool) {l : List UInt8} (h : ¬ l.length < 1) : num lit (l.take 1) = num false (l.take 1) := by
 cases l with
 | nil => simp at h
 | cons c t => cases lit <;> rfl
end Bn
set_option maxHeartbeats 4000000 in
theorem rgeom_any (kind : Nat) (hk : 0 < kind) (hk2 : kind < 100) (l : List UInt8) (o0 : Nat) (off : Bool) (rb : Nat) (w : World) (hr : RB w rb l o0 false off) (hl : l.length ≤ 6000) :
  Calls Tryz.prog 75 #[.pointer (some ⟨rb, 0, none⟩), .int .u64 kind] w fun e w' => ∃ (v : Nat) (l' : List UInt8) (o : Nat) (bad : Bool), e = .returned (.int .u64 v) ∧ RB w' rb l' o bad off ∧ Fr (· = rb) w w' ∧ Bn.head kind l = (if bad = true then none else some (((o : Int) == 1), v, l')) ∧ v < 4294967296 ∧ l'.length ≤ 6000 := by
 have HR := hide hr
 clear hr
 have kne : ((0 : Int) == (kind : Int)) = false := beq_eq_false_iff_ne.2 (by omega)
 by_cases hA : l.length < 1
 ·have HH : Hid (Bn.head kind l = none) := by show _ = _; unfold Bn.head; rw [Bn.cut_none hA]; rfl
  go_enter Tryz.func75, Tryz.ntmps75
  go_wp2_with fail
  refine (rnum_bad 1 l o0 off false rb _ HR.out (.inr hA) hl (by omega)).mono ?_
  rintro e w1 ⟨rfl, h1, u1⟩
  obtain ⟨a0, a1, a2, a3, a4, a5, a6, a7⟩ := h1.facts
  have h2 := h1.ord 0
  obtain ⟨b0, b1, b2, b3, b4, b5, b6, b7⟩ := h2.facts
  replace h2 := hide h2
  replace u1 := hide u1
  clear h1
  go_wp2_with fail
  refine (rnum_bad 4 l 0 off true rb _ h2.out (.inl rfl) hl (by omega)).mono ?_
  rintro e w2 ⟨rfl, h3, u3⟩
  obtain ⟨a0', a1', a2', a3', a4', a5', a6', a7'⟩ := h3.facts
  have h4 := hide (h3.bad true)
  replace u3 := hide u3
  clear h3
  go_wp2_with fail
  refine (rnum_bad 4 l 0 off true rb _ h4.out (.inl rfl) hl (by omega)).mono ?_
  rintro e w3 ⟨rfl, h5, u5⟩
  replace h5 := hide h5
  replace u5 := hide u5
  go_wp2
  go_ret
  exact ⟨0, l, 0, true, rfl, h5.out, (((u1.out.setCell (p := ⟨rb, 1, none⟩) rfl _).trans u3.out).setCell (p := ⟨rb, 2, none⟩) rfl _).trans u5.out, HH.out, by omega, hl⟩
 ·have HN := hide (Bn.num_one ((o0 : Int) == 1) hA)
  have HH := hide (show Bn.head kind l = _ by unfold Bn.head; rw [Bn.cut_some hA, Option.bind_some])
  have hc : Bn.num false (l.take 1) < 256 := by
   have := Bn.num_lt false (l.take 1)
   rw [List.length_take, Nat.min_eq_left (by omega)] at this
   simpa using this
  obtain ⟨c, hc1⟩ : ∃ c, c = Bn.num false (l.take 1) := ⟨_, rfl⟩
  obtain ⟨t, ht⟩ : ∃ t, t = l.drop 1 := ⟨_, rfl⟩
  have htl : t.length ≤ 6000 := by rw [ht]; simp; omega
  rw [← hc1] at HN HH hc
  rw [← ht] at HH
  have HT := hide ht
  clear hc1 ht
  by_cases hB : 1 < c
  ·have HH' : Hid (Bn.head kind l = none) := by rw [HH.out, if_pos hB]; exact rfl
   have c0b : ((c : Int) != 0) = true := bne_iff_ne.2 (by omega)
   have c1b : ((c : Int) != 1) = true := bne_iff_ne.2 (by omega)
   clear HH
   go_enter Tryz.func75, Tryz.ntmps75
   go_wp2_with fail
   refine (rnum_ok 1 l o0 off rb _ HR.out hA hl (by omega) _ rfl).mono ?_
   rintro e w1 ⟨rfl, h1, u1⟩
   rw [HN.out]
   rw [← HT.out] at h1
   obtain ⟨a0, a1, a2, a3, a4, a5, a6, a7⟩ := h1.facts
   have h2 := h1.ord c
   obtain ⟨b0, b1, b2, b3, b4, b5, b6, b7⟩ := h2.facts
   have h2b := hide (h2.bad true)
   replace u1 := hide u1
   clear h1 h2
   go_wp2_with fail
   refine (rnum_bad 4 t c off true rb _ h2b.out (.inl rfl) htl (by omega)).mono ?_
   rintro e w2 ⟨rfl, h3, u3⟩
   obtain ⟨a0', a1', a2', a3', a4', a5', a6', a7'⟩ := h3.facts
   have h4 := hide (h3.bad true)
   replace u3 := hide u3
   clear h3
   go_wp2_with fail
   refine (rnum_bad 4 t c off true rb _ h4.out (.inl rfl) htl (by omega)).mono ?_
   rintro e w3 ⟨rfl, h5, u5⟩
   replace h5 := hide h5
   replace u5 := hide u5
   go_wp2
   go_ret
   exact ⟨0, t, c, true, rfl, h5.out, ((((u1.out.setCell (p := ⟨rb, 1, none⟩) rfl _).setCell (p := ⟨rb, 2, none⟩) rfl _).trans u3.out).setCell (p := ⟨rb, 2, none⟩) rfl _).trans u5.out, HH'.out, by omega, htl⟩
  ·rw [if_neg hB] at HH
   have HL : Hid ((c == 1) = ((c : Int) == 1)) := by
    show _ = _
    rcases (show c = 0 ∨ c = 1 by omega) with rfl | rfl <;> rfl
   rw [HL.out] at HH
   have hd : (((c : Int) != 0) = false) ∨ (((c : Int) != 0) = true ∧ ((c : Int) != 1) = false) := by
    rcases (show c = 0 ∨ c = 1 by omega) with rfl | rfl
    ·exact .inl rfl
    ·exact .inr ⟨rfl, rfl⟩
   by_cases hC : t.length < 4
   ·have HH' : Hid (Bn.head kind l = none) := by rw [HH.out, Bn.cut_none hC]; exact rfl
    clear HH
    rcases hd with d0 | ⟨d0, d1⟩
    all_goals
     go_enter Tryz.func75, Tryz.ntmps75
     go_wp2_with fail
     refine (rnum_ok 1 l o0 off rb _ HR.out hA hl (by omega) _ rfl).mono ?_
     rintro e w1 ⟨rfl, h1, u1⟩
     rw [HN.out]
     rw [← HT.out] at h1
     obtain ⟨a0, a1, a2, a3, a4, a5, a6, a7⟩ := h1.facts
     have h2 := hide (h1.ord c)
     obtain ⟨b0, b1, b2, b3, b4, b5, b6, b7⟩ := RB.facts (h1.ord c)
     replace u1 := hide u1
     clear h1
     go_wp2_with fail
     refine (rnum_bad 4 t _ off false rb _ h2.out (.inr hC) htl (by omega)).mono ?_
     rintro e w2 ⟨rfl, h3, u3⟩
     obtain ⟨a0', a1', a2', a3', a4', a5', a6', a7'⟩ := h3.facts
     have h4 := hide (h3.bad true)
     replace u3 := hide u3
     clear h3
     go_wp2_with fail
     refine (rnum_bad 4 t _ off true rb _ h4.out (.inl rfl) htl (by omega)).mono ?_
     rintro e w3 ⟨rfl, h5, u5⟩
     replace h5 := hide h5
     replace u5 := hide u5
     go_wp2
     go_ret
     exact ⟨0, t, _, true, rfl, h5.out, (((u1.out.setCell (p := ⟨rb, 1, none⟩) rfl _).trans u3.out).setCell (p := ⟨rb, 2, none⟩) rfl _).trans u5.out, HH'.out, by omega, htl⟩
   ·rw [Bn.cut_some hC, Option.bind_some] at HH
    have hy : Bn.num ((c : Int) == 1) (t.take 4) < 4294967296 := Bn.num_lt4 (by rw [List.length_take]; omega)
    obtain ⟨y, hy1⟩ : ∃ y, y = Bn.num ((c : Int) == 1) (t.take 4) := ⟨_, rfl⟩
    obtain ⟨u, hu⟩ : ∃ u, u = t.drop 4 := ⟨_, rfl⟩
    have hul : u.length ≤ 6000 := by rw [hu]; simp; omega
    rw [← hy1] at HH hy
    rw [← hu] at HH
    have HY := hide hy1
    have HU := hide hu
    clear hy1 hu
    by_cases hD : y = kind
    ·rw [if_neg (by simpa using hD)] at HH
     have hDb : ((y : Int) != (kind : Int)) = false := bne_eq_false_iff_eq.2 (by omega)
     by_cases hE : u.length < 4
     ·have HH' : Hid (Bn.head kind l = none) := by rw [HH.out, Bn.cut_none hE]; exact rfl
      clear HH
      rcases hd with d0 | ⟨d0, d1⟩
      all_goals
       go_enter Tryz.func75, Tryz.ntmps75
       go_wp2_with fail
       refine (rnum_ok 1 l o0 off rb _ HR.out hA hl (by omega) _ rfl).mono ?_
       rintro e w1 ⟨rfl, h1, u1⟩
       rw [HN.out]
       rw [← HT.out] at h1
       obtain ⟨a0, a1, a2, a3, a4, a5, a6, a7⟩ := h1.facts
       have h2 := hide (h1.ord c)
       obtain ⟨b0, b1, b2, b3, b4, b5, b6, b7⟩ := RB.facts (h1.ord c)
       replace u1 := hide u1
       clear h1
       go_wp2_with fail
       refine (rnum_ok 4 t _ off rb _ h2.out hC htl (by omega) _ rfl).mono ?_
       rintro e w2 ⟨rfl, h3, u3⟩
       rw [← HY.out]
       rw [← HU.out] at h3
       obtain ⟨a0', a1', a2', a3', a4', a5', a6', a7'⟩ := h3.facts
       have h4 := hide (h3.bad true)
       replace u3 := hide u3
       replace h3 := hide h3
       go_wp2_with fail
       refine (rnum_bad 4 u _ off false rb _ h3.out (.inr hE) hul (by omega)).mono ?_
       rintro e w3 ⟨rfl, h5, u5⟩
       replace h5 := hide h5
       replace u5 := hide u5
       go_wp2
       go_ret
       exact ⟨0, u, _, true, rfl, h5.out, ((u1.out.setCell (p := ⟨rb, 1, none⟩) rfl _).trans u3.out).trans u5.out, HH'.out, by omega, hul⟩
     ·rw [Bn.cut_some hE, Option.bind_some] at HH
      have hz : Bn.num ((c : Int) == 1) (u.take 4) < 4294967296 := Bn.num_lt4 (by rw [List.length_take]; omega)
      rcases hd with d0 | ⟨d0, d1⟩
      all_goals
       go_enter Tryz.func75, Tryz.ntmps75
       go_wp2_with fail
       refine (rnum_ok 1 l o0 off rb _ HR.out hA hl (by omega) _ rfl).mono ?_
       rintro e w1 ⟨rfl, h1, u1⟩
       rw [HN.out]
       rw [← HT.out] at h1
       obtain ⟨a0, a1, a2, a3, a4, a5, a6, a7⟩ := h1.facts
       have h2 := hide (h1.ord c)
       obtain ⟨b0, b1, b2, b3, b4, b5, b6, b7⟩ := RB.facts (h1.ord c)
       replace u1 := hide u1
       clear h1
       go_wp2_with fail
       refine (rnum_ok 4 t _ off rb _ h2.out hC htl (by omega) _ rfl).mono ?_
       rintro e w2 ⟨rfl, h3, u3⟩
       rw [← HY.out]
       rw [← HU.out] at h3
       obtain ⟨a0', a1', a2', a3', a4', a5', a6', a7'⟩ := h3.facts
       have h4 := hide (h3.bad true)
       replace u3 := hide u3
       replace h3 := hide h3
       go_wp2_with fail
       refine (rnum_ok 4 u _ off rb _ h3.out hE hul (by omega) _ rfl).mono ?_
       rintro e w3 ⟨rfl, h5, u5⟩
       replace h5 := hide h5
       replace u5 := hide u5
       go_wp2
       go_ret
       exact ⟨_, _, _, false, rfl, h5.out, ((u1.out.setCell (p := ⟨rb, 1, none⟩) rfl _).trans u3.out).trans u5.out, HH.out, hz, by simp; omega⟩
    ·rw [if_pos (by simpa using hD)] at HH
     have hDb : ((y : Int) != (kind : Int)) = true := bne_iff_ne.2 (by omega)
     rcases hd with d0 | ⟨d0, d1⟩
     all_goals
      go_enter Tryz.func75, Tryz.ntmps75
      go_wp2_with fail
      refine (rnum_ok 1 l o0 off rb _ HR.out hA hl (by omega) _ rfl).mono ?_
      rintro e w1 ⟨rfl, h1, u1⟩
      rw [HN.out]
      rw [← HT.out] at h1
      obtain ⟨a0, a1, a2, a3, a4, a5, a6, a7⟩ := h1.facts
      have h2 := hide (h1.ord c)
      obtain ⟨b0, b1, b2, b3, b4, b5, b6, b7⟩ := RB.facts (h1.ord c)
      replace u1 := hide u1
      clear h1
      go_wp2_with fail
      refine (rnum_ok 4 t _ off rb _ h2.out hC htl (by omega) _ rfl).mono ?_
      rintro e w2 ⟨rfl, h3, u3⟩
      rw [← HY.out]
      rw [← HU.out] at h3
      obtain ⟨a0', a1', a2', a3', a4', a5', a6', a7'⟩ := h3.facts
      have h4 := hide (h3.bad true)
      replace u3 := hide u3
      replace h3 := hide h3
      go_wp2_with fail
      refine (rnum_bad 4 u _ off true rb _ h4.out (.inl rfl) hul (by omega)).mono ?_
      rintro e w3 ⟨rfl, h5, u5⟩
      replace h5 := hide h5
      replace u5 := hide u5
      go_wp2
      go_ret
      exact ⟨0, u, _, true, rfl, h5.out, (((u1.out.setCell (p := ⟨rb, 1, none⟩) rfl _).trans u3.out).setCell (p := ⟨rb, 2, none⟩) rfl _).trans u5.out, HH.out, by omega, hul⟩
structure Elem (P : Program) (t e : TypeId) (z : Value) (size bytes : Nat) : Prop where
 und : P.underlying t = some (.slice e)
 info : (P.info? e).map (fun i => (i.zero, i.size, i.bytes)) = some (some z, size, bytes)
 zs : z.cells.size = size
 pos : 0 < size
 small : bytes ≤ 4096
theorem step_app {P : Program} {t e : TypeId} {z : Value} {size bytes : Nat} (E0 : Elem P t e z size bytes) {ops : Array Oper} {o : Oper} {a : Act} {w : World} {K : Act → World → Prop} {Q : Exit → Act → World → Prop} {E : Prop} (hgd : o.guard = none) (s x : Operand)
  (ho : o.op = .call { callee := .builtin .append, args := #[s, x], argTypes := #[t, t] }) (base : Nat) (v : Value) (n : Nat) (xs : List Value) (hs : a.eval s = v) (hown : w.ownsRow base e size v n xs)
  (g0 : Nat) (news : List Value) (hx : a.eval x = .slice (some ⟨g0, 0, none⟩) 1 1) (hl : news.length = size) (hg0 : w.heap[g0]? = some (.cells news.toArray e (0, 0))) (h1 : ∀ u ∈ news, u.oneCell' = true)
  (hn : n ≤ 1073741824) (hbase : base ≤ w.heap.size)
  (h : ∀ g cap w', w'.ownsRow base e size (.slice (some ⟨g, 0, none⟩) (n + 1) cap) (n + 1) (xs ++ news) → w.grownBy w' v.ownBlock → (v.ownBlock = some g ∨ g = w.heap.size) → g < w'.heap.size → K (a.put o.dst (.slice (some ⟨g, 0, none⟩) (n + 1) cap)) w') :
  if Region.wanted o (yielded ops a.tmps) = true then Oper.wp P o a w K Q else E := by
 obtain ⟨i, hi, hzz⟩ := Option.map_eq_some_iff.1 E0.info
 simp only [Prod.mk.injEq] at hzz
 obtain ⟨z1, z2, z3⟩ := hzz
 refine step_append_lies w hgd s x t ho base e i z size bytes E0.und hi z1 z2 z3 E0.zs E0.pos v n xs hs hown ⟨g0, 0, none⟩ 1 1 news hx (by omega) ?_ h1 (by omega) (by unfold maxLen; omega) ?_ hbase w.heap.size rfl h
 ·have := World.news_of_block hg0
  simpa using this
 ·have := E0.small
  have h2 : (n + 1) * bytes ≤ (n + 1) * 4096 := Nat.mul_le_mul_left _ this
  omega
theorem wpList_app {P : Program} {t e : TypeId} {z : Value} {size bytes : Nat} (E0 : Elem P t e z size bytes) {ops : Array Oper} {rest : List Oper} {o : Oper} {a : Act} {w : World} {Q : Exit → Act → World → Prop} (hgd : o.guard = none) (s x : Operand)
  (ho : o.op = .call { callee := .builtin .append, args := #[s, x], argTypes := #[t, t] }) (base : Nat) (v : Value) (n : Nat) (xs : List Value) (hs : a.eval s = v) (hown : w.ownsRow base e size v n xs)
  (g0 : Nat) (news : List Value) (hx : a.eval x = .slice (some ⟨g0, 0, none⟩) 1 1) (hl : news.length = size) (hg0 : w.heap[g0]? = some (.cells news.toArray e (0, 0))) (h1 : ∀ u ∈ news, u.oneCell' = true)
  (hn : n ≤ 1073741824) (hbase : base ≤ w.heap.size)
  (h : ∀ g cap w', w'.ownsRow base e size (.slice (some ⟨g, 0, none⟩) (n + 1) cap) (n + 1) (xs ++ news) → w.grownBy w' v.ownBlock → (v.ownBlock = some g ∨ g = w.heap.size) → g < w'.heap.size → wpList P ops Q rest (a.put o.dst (.slice (some ⟨g, 0, none⟩) (n + 1) cap)) w') :
  wpList P ops Q (o :: rest) a w := by
 obtain ⟨i, hi, hzz⟩ := Option.map_eq_some_iff.1 E0.info
 simp only [Prod.mk.injEq] at hzz
 obtain ⟨z1, z2, z3⟩ := hzz
 refine wpList_append_lies w hgd s x t ho base e i z size bytes E0.und hi z1 z2 z3 E0.zs E0.pos v n xs hs hown ⟨g0, 0, none⟩ 1 1 news hx (by omega) ?_ h1 (by omega) (by unfold maxLen; omega) ?_ hbase w.heap.size rfl h
 ·have := World.news_of_block hg0
  simpa using this
 ·have := E0.small
  have h2 : (n + 1) * bytes ≤ (n + 1) * 4096 := Nat.mul_le_mul_left _ this
  omega
theorem own_type {w : World} {base : Nat} {e : TypeId} {size : Nat} {v : Value} {n : Nat} {xs : List Value} (h : w.ownsRow base e size v n xs) {g : Nat} (hg : v.ownBlock = some g) : ∃ cur, w.heap[g]? = some (.cells cur e (0, 0)) := by
 rcases h.2 with ⟨rfl, _⟩ | ⟨g', cap, cur, rfl, _, hh, _⟩
 ·cases hg
 ·cases hg; exact ⟨cur, hh⟩
theorem own_apart {w : World} {base base' : Nat} {e e' : TypeId} {size size' : Nat} {v v' : Value} {n n' : Nat} {xs xs' : List Value} (h : w.ownsRow base e size v n xs) (h' : w.ownsRow base' e' size' v' n' xs') (he : e ≠ e') : v.ownBlock = none ∨ v.ownBlock ≠ v'.ownBlock := by
  cases hv : v.ownBlock with
  | none => exact .inl rfl
  | some g =>
    refine .inr fun e2 => ?_
    obtain ⟨c, hc⟩ := own_type h hv
    obtain ⟨c', hc'⟩ := own_type h' e2.symm
    rw [hc] at hc'
    simp at hc'
    exact he hc'.2
theorem own_row_ne {w : World} {base : Nat} {e : TypeId} {size : Nat} {v : Value} {n : Nat} {xs : List Value} (h : w.ownsRow base e size v n xs) {b : Nat} {t : TypeId} {vs : List Value} (hb : VRow w b t vs) (he : e ≠ t) : v.ownBlock ≠ some b := by
 intro e2
 obtain ⟨c, hc⟩ := own_type h e2
 unfold VRow at hb
 rw [hb] at hc
 simp at hc
 exact he hc.2.symm
theorem own_of_block {w w' : World} {base : Nat} {e : TypeId} {size : Nat} {v : Value} {n : Nat} {xs : List Value} (h : w.ownsRow base e size v n xs) (k : ∀ g, v.ownBlock = some g → w'.heap[g]? = w.heap[g]?) : w'.ownsRow base e size v n xs := by
 refine ⟨h.1, ?_⟩
 rcases h.2 with h2 | ⟨g, cap, cur, rfl, hb, hh, r⟩
 ·exact .inl h2
 ·exact .inr ⟨g, cap, cur, rfl, hb, (k g rfl).trans hh, r⟩
theorem own_lt {w : World} {base : Nat} {e : TypeId} {size : Nat} {v : Value} {n : Nat} {xs : List Value} (h : w.ownsRow base e size v n xs) {g : Nat} (hg : v.ownBlock = some g) : base ≤ g ∧ g < w.heap.size := h.lt g hg
theorem own_set {w : World} {base : Nat} {e : TypeId} {size : Nat} {v : Value} {n : Nat} {xs : List Value} (h : w.ownsRow base e size v n xs) {a : Addr} (ha : v.ownBlock ≠ some a.block) (u : Value) : (w.setCell a u).ownsRow base e size v n xs :=
 own_of_block h fun g hg => Below.heap_setCell _ _ _ _ (fun e => ha (e ▸ hg))
theorem own_up {w w' : World} {base : Nat} {e : TypeId} {size : Nat} {v : Value} {n : Nat} {xs : List Value} (h : w.ownsRow base e size v n xs) (k : Up w w') : w'.ownsRow base e size v n xs :=
 own_of_block h fun g hg => k.block g (own_lt h hg).2
theorem own_fr {S : Nat → Prop} {w w' : World} {base : Nat} {e : TypeId} {size : Nat} {v : Value} {n : Nat} {xs : List Value} (h : w.ownsRow base e size v n xs) (k : Fr S w w') (hs : ∀ g, v.ownBlock = some g → ¬ S g) : w'.ownsRow base e size v n xs :=
 own_of_block h fun g hg => k.block g (own_lt h hg).2 (hs g hg)
theorem own_base {w : World} {base base' : Nat} {e : TypeId} {size : Nat} {v : Value} {n : Nat} {xs : List Value} (h : w.ownsRow base e size v n xs) (hb : base' ≤ base) : w.ownsRow base' e size v n xs := by
 refine ⟨h.1, ?_⟩
 rcases h.2 with h2 | ⟨g, cap, cur, rfl, hb2, r⟩
 ·exact .inl h2
 ·exact .inr ⟨g, cap, cur, rfl, by omega, r⟩
theorem VRow.grown {w w' : World} {row : Option Nat} {b : Nat} {t : TypeId} {vs : List Value} (h : VRow w b t vs) (hg : w.grownBy w' row) (hne : row ≠ some b) : VRow w' b t vs :=
 h.of_block (hg.block b h.lt (fun e => hne e.symm))
def hd1 (c : Nat) : Value := .slice (some ⟨c, 0, none⟩) 1 1
def off (ps : List D2) : Nat := (ps.map fun x => x.rs.length + 1).sum
structure HL (w wq : World) (x : D2) (mk : Int) (i : Nat) (cs : List Nat) : Prop where
 fr : Fr (fun b => b = x.b) w wq
 row : VRow wq x.b 46 (cs.map hd1 ++ (x.rs.drop i ++ x.s).map D1.v)
 len : cs.length = i
 new : ∀ c ∈ cs, w.heap.size ≤ c ∧ PRow wq c [(77, mk)]
theorem el_polys : Elem Tryz.prog 42 45 (.slice none 0 0) 1 24 := ⟨und_polys, info_rings, rfl, by omega, by omega⟩
theorem el_rings : Elem Tryz.prog 45 46 (.slice none 0 0) 1 24 := ⟨und_rings, info_pts, rfl, by omega, by omega⟩
theorem el_ints : Elem Tryz.prog 107 3 (.int .i64 0) 1 8 := ⟨by kernel_rfl, by kernel_rfl, rfl, by omega, by omega⟩
def intV (l : List (Value × Int)) : List Value := l.map fun e => .int .i64 e.2
def fstV (l : List (Value × Int)) : List Value := l.map fun e => e.1
theorem own_shape {w : World} {base : Nat} {e : TypeId} {size : Nat} {v : Value} {n : Nat} {xs : List Value} (h : w.ownsRow base e size v n xs) : ∃ a n k, v = .slice a n k := by
 rcases h.2 with ⟨rfl, _⟩ | ⟨g, cap, cur, rfl, _⟩
 ·exact ⟨_, _, _, rfl⟩
 ·exact ⟨_, _, _, rfl⟩
end Go.Proofs.YtcclepohmhdpbabGreatDoor
