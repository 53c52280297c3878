import Derived.Test.YtcclepohmhdpbabGreatDoorClJ
namespace Go.Proofs.YtcclepohmhdpbabGreatDoor
set_option linter.all false
open Go.RowKit Go.Deep
structure SzL (l : Poly) : Prop where
 len : l.length ≤ 1048576
 ring : ∀ r ∈ l, r.length ≤ 1048575
 flat : l.flatten.length ≤ 1048575
 cd : Vd.CdL l
theorem Sz.at {m : Mult} (h : Sz m) {l : Poly} (hl : l ∈ m) : SzL l := ⟨h.poly l hl, h.ring l hl, h.flat l hl, h.cd l hl⟩
theorem SzL.ring' {l : Poly} (h : SzL l) : ∀ r ∈ l, r.length ≤ 1048576 := fun r hr => by have := h.ring r hr; omega
theorem holdsC1 (l : Poly) : Vd.holdsC 1 l = Vd.simple l := rfl
theorem holdsC2 (l : Poly) : Vd.holdsC 2 l = Vd.touch l := rfl
theorem holdsC3 (l : Poly) : Vd.holdsC 3 l = Vd.nested l := rfl
theorem holdsC4 (l : Poly) : Vd.holdsC 4 l = !(Vd.way l) := rfl
set_option maxHeartbeats 2000000 in
theorem holds_any (c : Nat) (hc : 1 ≤ c) (hc4 : c ≤ 4) (v : Value) (l : Poly) (w : World) (hv : Rd2 w v l) (hz : SzL l) :
  Calls Tryz.prog 46 #[.int .i64 c, v] w fun e w' => e = .returned (.bool (Vd.holdsC c l)) ∧ Up w w' := by
 have HV := hide hv
 have HZ := hide hz
 clear hv hz
 rcases (show c = 1 ∨ c = 2 ∨ c = 3 ∨ c = 4 from by omega) with rfl | rfl | rfl | rfl
 ·rw [holdsC1]
  go_enter Tryz.func46, Tryz.ntmps46
  go_wp2_with (go_at_call 62; refine (areSimple_any _ l _ HV.out HZ.out.len HZ.out.ring' HZ.out.cd).mono ?_; rintro e w2 ⟨rfl, hz2⟩; replace hz2 := hide hz2)
  go_ret
  exact ⟨rfl, hz2.out⟩
 ·rw [holdsC2]
  go_enter Tryz.func46, Tryz.ntmps46
  go_wp2_with (go_at_call 63; refine (touch_any _ l _ HV.out HZ.out.len HZ.out.ring' HZ.out.cd).mono ?_; rintro e w2 ⟨rfl, hz2⟩; replace hz2 := hide hz2)
  go_ret
  exact ⟨rfl, hz2.out⟩
 ·rw [holdsC3]
  go_enter Tryz.func46, Tryz.ntmps46
  go_wp2_with (go_at_call 64; refine (nested_any _ l _ HV.out HZ.out.len HZ.out.ring HZ.out.cd).mono ?_; rintro e w2 ⟨rfl, hz2⟩; replace hz2 := hide hz2)
  go_ret
  exact ⟨rfl, hz2.out⟩
 ·rw [holdsC4]
  go_enter Tryz.func46, Tryz.ntmps46
  go_wp2_with (go_at_call 65; refine (way_any _ l _ HV.out HZ.out.len HZ.out.ring' (by have := HZ.out.flat; omega) HZ.out.cd).mono ?_; rintro e w2 ⟨rfl, hz2⟩; replace hz2 := hide hz2)
  go_ret
  exact ⟨rfl, hz2.out⟩
theorem least_at {m : Mult} {k : Nat} (hk : k < 4) (h : ∀ j, 1 ≤ j → j ≤ k → Vd.badC j m = false) (hb : Vd.badC (k + 1) m = true) : Vd.least m = (k : Int) + 1 := by
 unfold Vd.least
 rcases (show k = 0 ∨ k = 1 ∨ k = 2 ∨ k = 3 from by omega) with rfl | rfl | rfl | rfl
 ·simp [hb]
 ·simp [h 1 (by omega) (by omega), hb]
 ·simp [h 1 (by omega) (by omega), h 2 (by omega) (by omega), hb]
 ·simp [h 1 (by omega) (by omega), h 2 (by omega) (by omega), h 3 (by omega) (by omega), hb]
theorem least_last {m : Mult} (h : ∀ j, 1 ≤ j → j ≤ 4 → Vd.badC j m = false) : Vd.least m = if Vd.overlap m = true then 5 else 0 := by
 unfold Vd.least
 simp [h 1 (by omega) (by omega), h 2 (by omega) (by omega), h 3 (by omega) (by omega), h 4 (by omega) (by omega)]
set_option maxHeartbeats 4000000 in
theorem least_any (v : Value) (m : Mult) (w : World) (hv : Rd3 w v m) (hz : Sz m) :
  Calls Tryz.prog 33 #[v] w fun e w' => e = .returned (.int .i64 (Vd.least m)) ∧ Up w w' := by
 have HV := hide hv
 obtain ⟨ao, cap, rfl, hM⟩ := hv
 have HM := hide hM
 have HZ := hide hz
 have hl := hz.len
 have HLa := hide (fun k => least_at (m := m) (k := k))
 have HLl := hide (least_last (m := m))
 clear hM hz
 go_enter Tryz.func33, Tryz.ntmps33
 go_wp2
 go_loopw [3] (fun i wr => ∃ k : Nat, i = .int .i64 ((k : Int) + 1) ∧ k ≤ 4 ∧ Hid (Up w wr) ∧ Hid (∀ j, 1 ≤ j → j ≤ k → Vd.badC j m = false)) (fun i _ => 5 - (intOf i).toNat)
 case atStart => exact ⟨0, rfl, Nat.zero_le _, Up.refl _, fun j h1 h2 => by omega⟩
 case round =>
  obtain ⟨k, rfl, hk, HU, HA⟩ := hrel
  by_cases hlt : k < 4
  ·have i1 : (k : Int) + 1 ≤ 4 := by omega
   have HBd : Hid (Vd.badC (k + 1) m = m.any fun l => !(Vd.holdsC (k + 1) l)) := rfl
   go_wp2
   go_loopw [12] (fun i wr => ∃ q : Nat, i = .int .i64 q ∧ q ≤ m.length ∧ Hid (Up w wr) ∧ Hid ((m.take q).any (fun l => !(Vd.holdsC (k + 1) l)) = false)) (fun i _ => m.length - (intOf i).toNat)
   case atStart => exact ⟨0, rfl, Nat.zero_le _, HU, rfl⟩
   case round =>
    clear HU
    obtain ⟨q, rfl, hq, HU, HB⟩ := hrel
    by_cases hlq : q < m.length
    ·obtain ⟨l, hl2⟩ := Pl.some_of_lt hlq
     obtain ⟨b, z, rfl, cu, hzo⟩ := HM.out q l hl2
     have Hz2 := hide (hzo.up HU.out)
     have cu2 := HU.out.cell cu
     have Hlz := hide (HZ.out.at (Pl.mem_of_some hl2))
     have HY := hide (Pl.any_take_succ (fun l => !(Vd.holdsC (k + 1) l)) hl2)
     have Hl := hide hl2
     clear hl2 cu hzo
     cases hx : Vd.holdsC (k + 1) l
     ·have Hx := hide hx
      have HR := hide (HLa.out k hlt HA.out (by rw [HBd.out]; exact Pl.any_true_of _ Hl.out (by rw [hx]; rfl)))
      clear hx
      go_wp2_with (go_at_call 46; refine (holds_any (k + 1) (by omega) (by omega) _ l _ Hz2.out Hlz.out).mono ?_; rintro e w2 ⟨rfl, hz2⟩; rw [Hx.out]; replace hz2 := hide hz2)
      go_ret
      exact ⟨ret_i HR.out.symm, HU.out.trans hz2.out⟩
     ·have Hx := hide hx
      clear hx
      go_wp2_with (go_at_call 46; refine (holds_any (k + 1) (by omega) (by omega) _ l _ Hz2.out Hlz.out).mono ?_; rintro e w2 ⟨rfl, hz2⟩; rw [Hx.out]; replace hz2 := hide hz2)
      go_roundw
      case rel => exact ⟨q + 1, by go_num, by omega, HU.out.trans hz2.out, by rw [HY.out, HB.out, Hx.out]; exact rfl⟩
      case measure => simp [intOf]; omega
    ·have hq2 : q = m.length := by omega
     subst hq2
     rw [List.take_length] at HB
     have HA2 : Hid (∀ j, 1 ≤ j → j ≤ k + 1 → Vd.badC j m = false) := by
      intro j h1 h2
      by_cases e : j = k + 1
      ·rw [e, HBd.out]; exact HB.out
      ·exact HA.out j h1 (by omega)
     go_wp2
     go_roundw
     case rel => exact ⟨k + 1, by go_num, by omega, HU, HA2⟩
     case measure => simp [intOf]; omega
  ·have hk2 : k = 4 := by omega
   have HR := hide (HLl.out (by rw [← hk2]; exact HA.out))
   have i1 : ¬ ((k : Int) + 1 ≤ 4) := by omega
   clear hk2
   go_wp2_with fail
   refine (overlap_any _ m _ (HV.out.up HU.out) HZ.out).mono ?_
   rintro e w2 ⟨rfl, hz2⟩
   replace hz2 := hide hz2
   cases hx : Vd.overlap m
   all_goals
    rw [hx] at HR
    go_wp2
    go_ret
    exact ⟨ret_i HR.out.symm, HU.out.trans hz2.out⟩
theorem le_sum {x : Nat} : ∀ {l : List Nat}, x ∈ l → x ≤ l.sum := by
  intro l
  induction l with
  | nil => intro h; cases h
  | cons a t ih =>
    intro h
    rw [List.sum_cons]
    rcases List.mem_cons.1 h with rfl | h
    · omega
    · have := ih h; omega
theorem sz_of {m : Mult} (h : Pl.wrong m = 0) : Sz m := by
 have hmany : Pl.many m = false := by
  unfold Pl.wrong at h
  split at h
  ·omega
  ·rename_i k; simpa using k
 unfold Pl.many at hmany
 simp only [Bool.or_eq_false_iff, decide_eq_false_iff_not] at hmany
 obtain ⟨⟨h1, h2⟩, h3⟩ := hmany
 have nr : ∀ l ∈ m, l.length ≤ Pl.nR m := fun l hl => by
  unfold Pl.nR
  exact le_sum (List.mem_map_of_mem hl)
 have np : ∀ l ∈ m, Pl.nPl l ≤ Pl.nP m := fun l hl => by
  unfold Pl.nP
  exact le_sum (List.mem_map_of_mem hl)
 have nl : ∀ l : Poly, ∀ r ∈ l, r.length ≤ Pl.nPl l := fun l r hr => by
  unfold Pl.nPl
  exact le_sum (List.mem_map_of_mem hr)
 have nf : ∀ l : Poly, l.flatten.length = Pl.nPl l := fun l => by
  unfold Pl.nPl; rw [List.length_flatten]
 refine ⟨by omega, fun l hl => by have := nr l hl; omega, fun l hl r hr => ?_, fun l hl => ?_, Vd.cd_of h⟩
 ·have := nl l r hr; have := np l hl; omega
 ·rw [nf]; have := np l hl; omega
end Go.Proofs.YtcclepohmhdpbabGreatDoor
