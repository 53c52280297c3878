import Derived.Test.YtcclepohmhdpbabGreatDoorCnG
import Derived.Test.YtcclepohmhdpbabGreatDoorProg
import Derived.Test.YtcclepohmhdpbabGreatDoorPnG
import Derived.WalkLawsBesides
import Derived.Lib.Strings
/- THE WALKS: package clauses: Least; Validate. -/
namespace Go.Proofs.YtcclepohmhdpbabGreatDoor
set_option linter.all false
open Go.RowKit Go.Deep

/-- The sizes of a polygon that can be asked. -/
structure SzL (l : Poly) : Prop where
  len : l.length ≤ 1048576
  ring : ∀ r ∈ l, r.length ≤ 1048575
  flat : l.flatten.length ≤ 1048575
  cd : Vd.CdL l
theorem Sz.at {m : Mult} (h : Sz m) {l : Poly} (hl : l ∈ m) : SzL l := ⟨h.poly l hl, h.ring l hl, h.flat l hl, h.cd l hl⟩
theorem SzL.ring' {l : Poly} (h : SzL l) : ∀ r ∈ l, r.length ≤ 1048576 := fun r hr => by have := h.ring r hr; omega
theorem holdsC1 (l : Poly) : Vd.holdsC 1 l = Vd.simple l := rfl
theorem holdsC2 (l : Poly) : Vd.holdsC 2 l = Vd.touch l := rfl
theorem holdsC3 (l : Poly) : Vd.holdsC 3 l = Vd.nested l := rfl
theorem holdsC4 (l : Poly) : Vd.holdsC 4 l = !(Vd.way l) := rfl
set_option maxHeartbeats 2000000 in
theorem holds_any (c : Nat) (hc : 1 ≤ c) (hc4 : c ≤ 4) (v : Value) (l : Poly) (w : World) (hv : Rd2 w v l) (hz : SzL l) :
    Calls Tryz.prog 46 #[.int .i64 c, v] w fun e w' => e = .returned (.bool (Vd.holdsC c l)) ∧ Up w w' := by
  have HV := hide hv
  have HZ := hide hz
  clear hv hz
  rcases (show c = 1 ∨ c = 2 ∨ c = 3 ∨ c = 4 from by omega) with rfl | rfl | rfl | rfl
  · rw [holdsC1]
    go_enter Tryz.func46, Tryz.ntmps46
    go_wp2_with (go_at_call 62; refine (areSimple_any _ l _ HV.out HZ.out.len HZ.out.ring' HZ.out.cd).mono ?_; rintro e w2 ⟨rfl, hz2⟩; replace hz2 := hide hz2)
    go_ret
    exact ⟨rfl, hz2.out⟩
  · rw [holdsC2]
    go_enter Tryz.func46, Tryz.ntmps46
    go_wp2_with (go_at_call 63; refine (touch_any _ l _ HV.out HZ.out.len HZ.out.ring' HZ.out.cd).mono ?_; rintro e w2 ⟨rfl, hz2⟩; replace hz2 := hide hz2)
    go_ret
    exact ⟨rfl, hz2.out⟩
  · rw [holdsC3]
    go_enter Tryz.func46, Tryz.ntmps46
    go_wp2_with (go_at_call 64; refine (nested_any _ l _ HV.out HZ.out.len HZ.out.ring HZ.out.cd).mono ?_; rintro e w2 ⟨rfl, hz2⟩; replace hz2 := hide hz2)
    go_ret
    exact ⟨rfl, hz2.out⟩
  · rw [holdsC4]
    go_enter Tryz.func46, Tryz.ntmps46
    go_wp2_with (go_at_call 65; refine (way_any _ l _ HV.out HZ.out.len HZ.out.ring' (by have := HZ.out.flat; omega) HZ.out.cd).mono ?_; rintro e w2 ⟨rfl, hz2⟩; replace hz2 := hide hz2)
    go_ret
    exact ⟨rfl, hz2.out⟩

theorem least_at {m : Mult} {k : Nat} (hk : k < 4) (h : ∀ j, 1 ≤ j → j ≤ k → Vd.badC j m = false) (hb : Vd.badC (k + 1) m = true) : Vd.least m = (k : Int) + 1 := by
  unfold Vd.least
  rcases (show k = 0 ∨ k = 1 ∨ k = 2 ∨ k = 3 from by omega) with rfl | rfl | rfl | rfl
  · simp [hb]
  · simp [h 1 (by omega) (by omega), hb]
  · simp [h 1 (by omega) (by omega), h 2 (by omega) (by omega), hb]
  · simp [h 1 (by omega) (by omega), h 2 (by omega) (by omega), h 3 (by omega) (by omega), hb]
theorem least_last {m : Mult} (h : ∀ j, 1 ≤ j → j ≤ 4 → Vd.badC j m = false) : Vd.least m = if Vd.overlap m = true then 5 else 0 := by
  unfold Vd.least
  simp [h 1 (by omega) (by omega), h 2 (by omega) (by omega), h 3 (by omega) (by omega), h 4 (by omega) (by omega)]

set_option maxHeartbeats 4000000 in
theorem least_any (v : Value) (m : Mult) (w : World) (hv : Rd3 w v m) (hz : Sz m) :
    Calls Tryz.prog 33 #[v] w fun e w' => e = .returned (.int .i64 (Vd.least m)) ∧ Up w w' := by
  have HV := hide hv
  obtain ⟨ao, cap, rfl, hM⟩ := hv
  have HM := hide hM
  have HZ := hide hz
  have hl := hz.len
  have HLa := hide (fun k => least_at (m := m) (k := k))
  have HLl := hide (least_last (m := m))
  clear hM hz
  go_enter Tryz.func33, Tryz.ntmps33
  go_wp2
  go_loopw [3] (fun i wr => ∃ k : Nat, i = .int .i64 ((k : Int) + 1) ∧ k ≤ 4 ∧ Hid (Up w wr) ∧ Hid (∀ j, 1 ≤ j → j ≤ k → Vd.badC j m = false)) (fun i _ => 5 - (intOf i).toNat)
  case atStart => exact ⟨0, rfl, Nat.zero_le _, Up.refl _, fun j h1 h2 => by omega⟩
  case round =>
    obtain ⟨k, rfl, hk, HU, HA⟩ := hrel
    by_cases hlt : k < 4
    · have i1 : (k : Int) + 1 ≤ 4 := by omega
      have HBd : Hid (Vd.badC (k + 1) m = m.any fun l => !(Vd.holdsC (k + 1) l)) := rfl
      go_wp2
      go_loopw [12] (fun i wr => ∃ q : Nat, i = .int .i64 q ∧ q ≤ m.length ∧ Hid (Up w wr) ∧ Hid ((m.take q).any (fun l => !(Vd.holdsC (k + 1) l)) = false)) (fun i _ => m.length - (intOf i).toNat)
      case atStart => exact ⟨0, rfl, Nat.zero_le _, HU, rfl⟩
      case round =>
        clear HU
        obtain ⟨q, rfl, hq, HU, HB⟩ := hrel
        by_cases hlq : q < m.length
        · obtain ⟨l, hl2⟩ := Pl.some_of_lt hlq
          obtain ⟨b, z, rfl, cu, hzo⟩ := HM.out q l hl2
          have Hz2 := hide (hzo.up HU.out)
          have cu2 := HU.out.cell cu
          have Hlz := hide (HZ.out.at (Pl.mem_of_some hl2))
          have HY := hide (Pl.any_take_succ (fun l => !(Vd.holdsC (k + 1) l)) hl2)
          have Hl := hide hl2
          clear hl2 cu hzo
          cases hx : Vd.holdsC (k + 1) l
          · have Hx := hide hx
            have HR := hide (HLa.out k hlt HA.out (by rw [HBd.out]; exact Pl.any_true_of _ Hl.out (by rw [hx]; rfl)))
            clear hx
            go_wp2_with (go_at_call 46; refine (holds_any (k + 1) (by omega) (by omega) _ l _ Hz2.out Hlz.out).mono ?_; rintro e w2 ⟨rfl, hz2⟩; rw [Hx.out]; replace hz2 := hide hz2)
            go_ret
            exact ⟨ret_i HR.out.symm, HU.out.trans hz2.out⟩
          · have Hx := hide hx
            clear hx
            go_wp2_with (go_at_call 46; refine (holds_any (k + 1) (by omega) (by omega) _ l _ Hz2.out Hlz.out).mono ?_; rintro e w2 ⟨rfl, hz2⟩; rw [Hx.out]; replace hz2 := hide hz2)
            go_roundw
            case rel => exact ⟨q + 1, by go_num, by omega, HU.out.trans hz2.out, by rw [HY.out, HB.out, Hx.out]; exact rfl⟩
            case measure => simp [intOf]; omega
        · have hq2 : q = m.length := by omega
          subst hq2
          rw [List.take_length] at HB
          have HA2 : Hid (∀ j, 1 ≤ j → j ≤ k + 1 → Vd.badC j m = false) := by
            intro j h1 h2
            by_cases e : j = k + 1
            · rw [e, HBd.out]; exact HB.out
            · exact HA.out j h1 (by omega)
          go_wp2
          go_roundw
          case rel => exact ⟨k + 1, by go_num, by omega, HU, HA2⟩
          case measure => simp [intOf]; omega
    · have hk2 : k = 4 := by omega
      have HR := hide (HLl.out (by rw [← hk2]; exact HA.out))
      have i1 : ¬ ((k : Int) + 1 ≤ 4) := by omega
      clear hk2
      go_wp2_with fail
      refine (overlap_any _ m _ (HV.out.up HU.out) HZ.out).mono ?_
      rintro e w2 ⟨rfl, hz2⟩
      replace hz2 := hide hz2
      cases hx : Vd.overlap m
      all_goals
        rw [hx] at HR
        go_wp2
        go_ret
        exact ⟨ret_i HR.out.symm, HU.out.trans hz2.out⟩

/-! ### the calls -/
theorem le_sum {x : Nat} : ∀ {l : List Nat}, x ∈ l → x ≤ l.sum := by
  intro l
  induction l with
  | nil => intro h; cases h
  | cons a t ih =>
    intro h
    rw [List.sum_cons]
    rcases List.mem_cons.1 h with rfl | h
    · omega
    · have := ih h; omega
theorem sz_of {m : Mult} (h : Pl.wrong m = 0) : Sz m := by
  have hmany : Pl.many m = false := by
    unfold Pl.wrong at h
    split at h
    · omega
    · rename_i k; simpa using k
  unfold Pl.many at hmany
  simp only [Bool.or_eq_false_iff, decide_eq_false_iff_not] at hmany
  obtain ⟨⟨h1, h2⟩, h3⟩ := hmany
  have nr : ∀ l ∈ m, l.length ≤ Pl.nR m := fun l hl => by
    unfold Pl.nR
    exact le_sum (List.mem_map_of_mem hl)
  have np : ∀ l ∈ m, Pl.nPl l ≤ Pl.nP m := fun l hl => by
    unfold Pl.nP
    exact le_sum (List.mem_map_of_mem hl)
  have nl : ∀ l : Poly, ∀ r ∈ l, r.length ≤ Pl.nPl l := fun l r hr => by
    unfold Pl.nPl
    exact le_sum (List.mem_map_of_mem hr)
  have nf : ∀ l : Poly, l.flatten.length = Pl.nPl l := fun l => by
    unfold Pl.nPl; rw [List.length_flatten]
  refine ⟨by omega, fun l hl => by have := nr l hl; omega, fun l hl r hr => ?_, fun l hl => ?_, Vd.cd_of h⟩
  · have := nl l r hr; have := np l hl; omega
  · rw [nf]; have := np l hl; omega
end Go.Proofs.YtcclepohmhdpbabGreatDoor

/- THE WALKS: Validate, isValid. -/
namespace Go.Proofs.YtcclepohmhdpbabGreatDoor
set_option linter.all false
open Go.RowKit Go.Deep

/-- A set in memory, as it is read. -/
structure SetR (w : World) (v : Value) (m : Mult) (b : Nat) (u : Value) : Prop where
  ptr : v = .pointer (some ⟨b, 0, none⟩)
  cell : VRow w b 62 [u]
  rd : Rd3 w u m
theorem SetR.up {w w' : World} {v : Value} {m : Mult} {b : Nat} {u : Value} (h : SetR w v m b u) (k : Up w w') : SetR w' v m b u := ⟨h.ptr, h.cell.up k, h.rd.up k⟩
theorem Set3.r {w : World} {v : Value} {m : Mult} {b : Nat} {d : D3} (h : Set3 w v m b d) : SetR w v m b d.v := ⟨h.ptr, h.cell, by have := h.ok.rd; rw [h.pts] at this; exact this⟩
set_option maxHeartbeats 1000000 in
theorem validate_any (v : Value) (m : Mult) (w : World) (b : Nat) (u : Value) (hs : SetR w v m b u) (hz : Sz m) :
    Calls Tryz.prog 17 #[v] w fun e w' => e = .returned (.int .i64 (Vd.least m)) ∧ Up w w' := by
  have HZ := hide hz
  have HR := hide hs.rd
  obtain ⟨rfl, hc, hr⟩ := hs
  obtain ⟨ao, cap, rfl, -⟩ := hr
  have c0 := hc.cell (i := 0) rfl
  clear hc hz
  go_enter Tryz.func17, Tryz.ntmps17
  go_wp2_with (go_at_call 33; refine (least_any _ m _ HR.out HZ.out).mono ?_; rintro e w2 ⟨rfl, hz2⟩; replace hz2 := hide hz2)
  go_ret
  exact ⟨rfl, hz2.out⟩
set_option maxHeartbeats 1000000 in
theorem isValid_any (v : Value) (m : Mult) (w : World) (b : Nat) (u : Value) (hs : SetR w v m b u) (hz : Sz m) :
    Calls Tryz.prog 31 #[v] w fun e w' => e = .returned (.bool (decide (Vd.least m = 0))) ∧ Up w w' := by
  have HZ := hide hz
  have HR := hide hs.rd
  obtain ⟨rfl, hc, hr⟩ := hs
  obtain ⟨ao, cap, rfl, -⟩ := hr
  have c0 := hc.cell (i := 0) rfl
  clear hc hz
  by_cases h : Vd.least m = 0
  · have H := hide h
    clear h
    go_enter Tryz.func31, Tryz.ntmps31
    go_wp2_with (go_at_call 33; refine (least_any _ m _ HR.out HZ.out).mono ?_; rintro e w2 ⟨rfl, hz2⟩; rw [H.out]; replace hz2 := hide hz2)
    go_ret
    exact ⟨ret_b (by rw [H.out]; rfl), hz2.out⟩
  · have H := hide h
    have h' := beq_eq_false_iff_ne.2 h
    go_enter Tryz.func31, Tryz.ntmps31
    go_wp2_with (go_at_call 33; refine (least_any _ m _ HR.out HZ.out).mono ?_; rintro e w2 ⟨rfl, hz2⟩; replace hz2 := hide hz2)
    go_ret
    exact ⟨ret_b (decide_eq_false H.out).symm, hz2.out⟩
theorem isValid_is {v : Value} {m : Mult} {w : World} {b : Nat} {u : Value} {B : Bool} (h : decide (Vd.least m = 0) = B) (hs : SetR w v m b u) (hz : Sz m) :
    Calls Tryz.prog 31 #[v] w fun e w' => e = .returned (.bool B) ∧ Up w w' := by
  have := isValid_any v m w b u hs hz; rwa [h] at this
end Go.Proofs.YtcclepohmhdpbabGreatDoor

/- THE WALKS: Canonical. -/
namespace Go.Proofs.YtcclepohmhdpbabGreatDoor
set_option linter.all false
open Go.RowKit Go.Deep

set_option maxRecDepth 8000 in
set_option maxHeartbeats 4000000 in
theorem canonical_invalid (v : Value) (m : Mult) (w : World) (g : Nat) (u : Value) (hs : SetR w v m g u) (hz : Sz m) (hv : Vd.least m ≠ 0) :
    Calls Tryz.prog 16 #[v] w fun e w' => e = .returned (.tuple #[.pointer none, .int .i64 7]) ∧ Up w w' := by
  have HK := hide (isValid_is (decide_eq_false hv) hs hz)
  obtain ⟨rfl, -, -⟩ := hs
  clear hz hv
  go_enter Tryz.func16, Tryz.ntmps16
  go_wp2_with fail
  refine HK.out.mono ?_
  rintro e w2 ⟨rfl, hu⟩
  replace hu := hide hu
  go_wp2
  go_ret2
  exact ⟨rfl, hu.out⟩
set_option maxRecDepth 8000 in
set_option maxHeartbeats 4000000 in
theorem canonical_ok (v : Value) (m : Mult) (w : World) (g : Nat) (u : Value) (hs : SetR w v m g u) (hz : Sz m) (hf : FZ m) (hv : Vd.least m = 0) :
    Calls Tryz.prog 16 #[v] w fun e w' => ∃ (b G : Nat) (X : List PG), e = .returned (.tuple #[.pointer (some ⟨b, 0, none⟩), .int .i64 0]) ∧ w.heap.size ≤ b ∧ VRow w' b 62 [.slice (some ⟨G, 0, none⟩) X.length X.length] ∧ NS w.heap.size w' G X ∧ PG.m X = Vd.form m ∧ Up w w' := by
  have HK := hide (isValid_is (decide_eq_true hv) hs hz)
  have HS := hide hs
  have HF := hide hf
  obtain ⟨rfl, -, -⟩ := hs
  obtain ⟨ua, uc, rfl, -⟩ := HS.out.rd
  clear hz hv hf
  go_enter Tryz.func16, Tryz.ntmps16
  go_wp2_with fail
  refine HK.out.mono ?_
  rintro e w2 ⟨rfl, hu⟩
  have HU := hide hu
  have c0 := ((HS.out.up hu).cell).cell (i := 0) rfl
  have HFm := hide (form_any _ m w2 (HS.out.rd.up hu) HF.out)
  clear hu HK
  go_wp2_with fail
  refine HFm.out.mono ?_
  rintro e w3 ⟨G, X, rfl, hN, hE, hu3⟩
  have HU3 := hide (HU.out.trans hu3)
  have hb : Hid (w.heap.size ≤ w2.heap.size) := HU.out.size
  have HN : Hid (NS w.heap.size (w3.alloc (.cells #[.slice (some ⟨G, 0, none⟩) X.length X.length] 62)) G X) :=
    ⟨Nat.le_trans hb.out hN.low, hN.row.up ((Up.refl _).alloc _), fun x hx => ((hN.ok x hx).base hb.out).up ((Up.refl _).alloc _)⟩
  have HE := hide hE
  have HR := hide (VRow.new w3 [.slice (some ⟨G, 0, none⟩) X.length X.length] 62)
  have hs3 : Hid (w.heap.size ≤ w3.heap.size) := HU3.out.size
  clear hN hE hu3 HFm c0
  go_wp2
  go_ret2
  exact ⟨w3.heap.size, G, X, rfl, hs3.out, HR.out, HN.out, HE.out, HU3.out.alloc _⟩
end Go.Proofs.YtcclepohmhdpbabGreatDoor

/- TEXTS AS LISTS OF BYTES. -/
namespace Go.Proofs.YtcclepohmhdpbabGreatDoor
set_option linter.all false
open Go.RowKit Go.Deep

/-- A text. -/
def bs (l : List UInt8) : ByteArray := ⟨l.toArray⟩
theorem bs_size (l : List UInt8) : (bs l).size = l.length := by simp [bs, ByteArray.size]
theorem bs_toList (l : List UInt8) : (bs l).toList = l := by simp [bs]
theorem bs_get (l : List UInt8) (i : Nat) (h : i < (bs l).size) : (bs l)[i]'h = l[i]'(by simpa [bs_size] using h) := by
  simp [bs, ByteArray.getElem_eq_getElem_data]
theorem bs_extract (l : List UInt8) (a b : Nat) : (bs l).extract a b = bs ((l.drop a).take (b - a)) := by
  simp [bs, Lib.extract_eq]
theorem bs_drop (l : List UInt8) (a : Nat) : (bs l).extract a l.length = bs (l.drop a) := by
  rw [bs_extract]; congr 1; apply List.take_of_length_le; simp
theorem bs_take (l : List UInt8) (b : Nat) : (bs l).extract 0 b = bs (l.take b) := by
  rw [bs_extract]; simp
theorem bs_append (a b : List UInt8) : bs a ++ bs b = bs (a ++ b) := by
  simp [bs, ByteArray.mk_append_mk]
theorem bs_of (s : ByteArray) : s = bs s.data.toList := by simp [bs]
theorem bs_lit (a : List UInt8) : ByteArray.mk a.toArray = bs a := rfl

def lenOf : Value → Nat
  | .string b => b.size
  | _ => 0

namespace Tx
/-- Byte i, or -1. -/
def at_ (l : List UInt8) (i : Nat) : Int := match l[i]? with
  | some c => (c.toNat : Int)
  | none => -1
def blank (x : Int) : Bool := x == 32 || x == 9 || x == 10 || x == 13
def digit (x : Int) : Bool := decide (48 ≤ x) && decide (x ≤ 57)
def bare (l : List UInt8) : List UInt8 := l.dropWhile fun c => blank c.toNat
def lead (l : List UInt8) : Nat := (l.takeWhile fun c => digit c.toNat).length

theorem at_nil (i : Nat) : at_ [] i = -1 := rfl
theorem at_zero (c : UInt8) (r : List UInt8) : at_ (c :: r) 0 = c.toNat := rfl
theorem at_lt {l : List UInt8} {i : Nat} (h : i < l.length) : at_ l i = (l[i].toNat : Int) := by simp [at_, h]
theorem at_ge {l : List UInt8} {i : Nat} (h : ¬ i < l.length) : at_ l i = -1 := by simp [at_, Nat.le_of_not_lt h]
theorem lt_of_at {l : List UInt8} {i : Nat} (h : at_ l i ≠ -1) : i < l.length := by
  by_cases k : i < l.length
  · exact k
  · exact absurd (at_ge k) h
theorem at_nn {l : List UInt8} {i : Nat} (h : i < l.length) : 0 ≤ at_ l i ∧ at_ l i ≤ 255 := by
  rw [at_lt h]; have := l[i].toNat_lt; omega
theorem at_drop (l : List UInt8) (k i : Nat) : at_ (l.drop k) i = at_ l (k + i) := by simp [at_]
theorem drop_cons {l : List UInt8} {k : Nat} (h : k < l.length) : l.drop k = l[k] :: l.drop (k + 1) := List.drop_eq_getElem_cons h

theorem bare_nil : bare [] = [] := rfl
theorem bare_cons (c : UInt8) (r : List UInt8) : bare (c :: r) = if blank c.toNat then bare r else c :: r := by
  cases h : blank c.toNat <;> simp [bare, List.dropWhile_cons, h]
theorem bare_le (l : List UInt8) : (bare l).length ≤ l.length := by
  induction l with
  | nil => simp [bare]
  | cons c r ih => rw [bare_cons]; split <;> simp <;> omega
theorem lead_nil : lead [] = 0 := rfl
theorem lead_cons (c : UInt8) (r : List UInt8) : lead (c :: r) = if digit c.toNat then lead r + 1 else 0 := by
  cases h : digit c.toNat <;> simp [lead, List.takeWhile_cons, h]
theorem lead_drop {l : List UInt8} {n : Nat} (hn : n < l.length) (h : lead l = n + lead (l.drop n)) : lead l = if digit (at_ l n) then n + 1 + lead (l.drop (n + 1)) else n := by
  rw [h, drop_cons hn, lead_cons, at_lt hn]; split <;> omega
theorem lead_end {l : List UInt8} {n : Nat} (hn : ¬ n < l.length) (h : lead l = n + lead (l.drop n)) : lead l = n := by
  rw [h, List.drop_of_length_le (Nat.le_of_not_lt hn)]; rfl
theorem lead_le (l : List UInt8) : lead l ≤ l.length := by
  induction l with
  | nil => simp [lead]
  | cons c r ih => rw [lead_cons]; split <;> simp <;> omega
end Tx

/-- What a walk is told of a text. -/
structure Tells (S : ByteArray) (l : List UInt8) : Prop where
  size : S.size = l.length
  get : ∀ i (h : i < S.size), ((S[i]'h).toNat : Int) = Tx.at_ l i
  drop : ∀ a, S.extract a l.length = bs (l.drop a)
  take : ∀ b, S.extract 0 b = bs (l.take b)
  list : S.toList = l
  out : S = bs l

theorem tells_of {S : ByteArray} {l : List UInt8} (h : bs l = S) : Tells S l := by
  subst h
  exact ⟨bs_size l, fun i h => by rw [bs_get, Tx.at_lt], bs_drop l, bs_take l, bs_toList l, rfl⟩
theorem tells (l : List UInt8) : ∃ S, bs l = S ∧ Tells S l := ⟨_, rfl, tells_of rfl⟩
theorem bs_tells (l : List UInt8) : Tells (bs l) l :=
  ⟨bs_size l, fun i h => by rw [bs_get, Tx.at_lt], bs_drop l, bs_take l, bs_toList l, rfl⟩
end Go.Proofs.YtcclepohmhdpbabGreatDoor

/- THE WALKS OVER TEXTS: bytes, blanks, digits. -/
namespace Go.Proofs.YtcclepohmhdpbabGreatDoor
set_option linter.all false
open Go.RowKit Go.Deep

set_option maxHeartbeats 400000 in
theorem wisBlank_any (x : Int) (w : World) :
    Calls Tryz.prog 124 #[.int .u8 x] w fun e w' => e = .returned (.bool (Tx.blank x)) ∧ w' = w := by
  unfold Tx.blank
  go_enter Tryz.func124, Tryz.ntmps124
  go_wp2
  all_goals
    go_ret
    exact ⟨by simp [*], rfl⟩

set_option maxHeartbeats 1000000 in
theorem digitsLength_any (l : List UInt8) (w : World) (hl : l.length ≤ 9223372036854775807) :
    Calls Tryz.prog 156 #[.string (bs l)] w fun e w' => e = .returned (.int .i64 (Tx.lead l : Nat)) ∧ w' = w := by
  obtain ⟨e0, e1, e2, e3, e4, e5⟩ := bs_tells l
  clear e2 e3 e4 e5
  generalize bs l = S at e0 e1 ⊢
  go_enter Tryz.func156, Tryz.ntmps156
  go_wp2
  go_loop [3] (fun s => ∃ n : Nat, n ≤ l.length ∧ s = .int .i64 n ∧ Tx.lead l = n + Tx.lead (l.drop n)) (fun s => l.length - (intOf s).toNat)
  case atStart => exact ⟨0, Nat.zero_le _, rfl, by simp⟩
  case round =>
    obtain ⟨n, hk, rfl, hb⟩ := hrel
    by_cases hn : n < l.length
    · have HB : Hid (Tx.lead l = _) := Tx.lead_drop hn hb
      clear hb
      by_cases h1 : 48 ≤ Tx.at_ l n
      · by_cases h2 : Tx.at_ l n ≤ 57
        · have hd : Hid (Tx.digit (Tx.at_ l n) = true) := by simp [Hid, Tx.digit, h1, h2]
          go_wp2
          go_round
          case rel => exact ⟨n + 1, by omega, by go_num, by rw [HB.out, if_pos hd.out]⟩
          case measure => simp [intOf]; omega
        · have hd : Hid (Tx.digit (Tx.at_ l n) = false) := by simp [Hid, Tx.digit, h1, h2]
          go_wp2
          go_ret
          exact ⟨by rw [HB.out, hd.out]; rfl, rfl⟩
      · have hd : Hid (Tx.digit (Tx.at_ l n) = false) := by simp [Hid, Tx.digit, h1]
        go_wp2
        go_ret
        exact ⟨by rw [HB.out, hd.out]; rfl, rfl⟩
    · have HB : Hid (Tx.lead l = n) := Tx.lead_end hn hb
      clear hb
      go_wp2
      go_ret
      exact ⟨by rw [HB.out]; rfl, rfl⟩
end Go.Proofs.YtcclepohmhdpbabGreatDoor

/- THE DOCUMENT's NUMBERS: what its units are, plainly. -/
namespace Go.Proofs.YtcclepohmhdpbabGreatDoor
set_option linter.all false
open Go.RowKit Go.Deep

namespace Du
/-- The digits ahead of the e; where the point stands; the e and what follows. -/
def scan : List UInt8 → List Nat → Int → List Nat × Int × List UInt8
  | [], d, p => (d, p, [])
  | c :: t, d, p => if c.toNat = 101 ∨ c.toNat = 69 then (d, p, c :: t) else scan t (if Tx.digit c.toNat = true then d ++ [c.toNat - 48] else d) (if c.toNat = 46 then (d.length : Int) else p)
theorem scan_e {l : List UInt8} {i : Nat} {d : List Nat} {p : Int} (hi : i < l.length) (h : Tx.at_ l i = 101 ∨ Tx.at_ l i = 69) : scan (l.drop i) d p = (d, p, l.drop i) := by
  rw [Tx.at_lt hi] at h
  rw [Tx.drop_cons hi, scan, if_pos (by omega)]
theorem scan_step {l : List UInt8} {i : Nat} {d : List Nat} {p : Int} (hi : i < l.length) (h1 : Tx.at_ l i ≠ 101) (h2 : Tx.at_ l i ≠ 69) : scan (l.drop i) d p = scan (l.drop (i + 1)) (if Tx.digit (Tx.at_ l i) = true then d ++ [(Tx.at_ l i - 48).toNat] else d) (if Tx.at_ l i = 46 then (d.length : Int) else p) := by
  rw [Tx.at_lt hi] at h1 h2
  rw [Tx.drop_cons hi, scan, if_neg (by omega), Tx.at_lt hi]
  have e1 : ((l[i].toNat : Int) - 48).toNat = l[i].toNat - 48 := by omega
  have e2 : ((l[i].toNat : Int) = 46) = (l[i].toNat = 46) := by apply propext; omega
  rw [e1]
  simp only [e2]
theorem scan_end {l : List UInt8} {i : Nat} {d : List Nat} {p : Int} (hi : ¬ i < l.length) : scan (l.drop i) d p = (d, p, l.drop i) := by
  rw [List.drop_of_length_le (Nat.le_of_not_lt hi)]; rfl
def capD : List UInt8 → Nat → Nat
  | [], e => e
  | c :: t, e => capD t (if Tx.digit c.toNat = true ∧ e < 100000 then 10 * e + (c.toNat - 48) else e)
theorem capD_step {l : List UInt8} {i e : Nat} (hi : i < l.length) : capD (l.drop i) e = capD (l.drop (i + 1)) (if Tx.digit (Tx.at_ l i) = true ∧ e < 100000 then 10 * e + (Tx.at_ l i - 48).toNat else e) := by
  rw [Tx.drop_cons hi, capD, Tx.at_lt hi]
  have e1 : ((l[i].toNat : Int) - 48).toNat = l[i].toNat - 48 := by omega
  rw [e1]
theorem capD_end {l : List UInt8} {i e : Nat} (hi : ¬ i < l.length) : capD (l.drop i) e = e := by
  rw [List.drop_of_length_le (Nat.le_of_not_lt hi)]; rfl
/-- The digits' sum, in ten-thousandths. -/
def sumD (q : Int) : List Nat → Nat → Nat → Option Nat
  | [], _, v => some v
  | d :: t, k, v => if d = 0 then sumD q t (k + 1) v else if q - 1 - k < -4 ∨ 4 < q - 1 - k then none else sumD q t (k + 1) (v + d * 10 ^ (q - 1 - k + 4).toNat)
theorem sumD_step (q : Int) {D : List Nat} {k d : Nat} (v : Nat) (h : D[k]? = some d) : sumD q (D.drop k) k v = if d = 0 then sumD q (D.drop (k + 1)) (k + 1) v else if q - 1 - k < -4 ∨ 4 < q - 1 - k then none else sumD q (D.drop (k + 1)) (k + 1) (v + d * 10 ^ (q - 1 - k + 4).toNat) := by
  have hk := Pl.lt_of_some h
  rw [List.drop_eq_getElem_cons hk]
  have : D[k] = d := by rw [List.getElem?_eq_getElem hk] at h; exact Option.some.inj h
  rw [this, sumD]
theorem sumD_end (q : Int) {D : List Nat} {k v : Nat} (h : ¬ k < D.length) : sumD q (D.drop k) k v = some v := by
  rw [List.drop_of_length_le (Nat.le_of_not_lt h)]; rfl
def fin (v : Nat) : Option Nat := if v % 625 ≠ 0 ∨ 32768 < v / 625 then none else some (v / 625)
def place (s : List Nat × Int × List UInt8) : Int := (if s.2.1 < 0 then (s.1.length : Int) else s.2.1) + (if Tx.at_ s.2.2 1 = 45 then -(capD s.2.2 0 : Int) else (capD s.2.2 0 : Int))
def units (l : List UInt8) : Option Nat := (sumD (place (scan l [] (-1))) (scan l [] (-1)).1 0 0).bind fin
def ints (d : List Nat) : List Value := d.map fun (n : Nat) => Value.int .i64 (n : Int)
theorem ints_snoc (d : List Nat) (n : Nat) : ints (d ++ [n]) = ints d ++ [.int .i64 (n : Int)] := by simp [ints]
theorem ten_le {n m : Nat} (hn : n ≤ 9) (hm : m ≤ 8) : n * 10 ^ m ≤ 900000000 := by
  have : 10 ^ m ≤ 10 ^ 8 := Nat.pow_le_pow_right (by omega) hm
  have e : (10 : Nat) ^ 8 = 100000000 := rfl
  have := Nat.mul_le_mul hn this
  omega
theorem fin_bad {v : Nat} (h : v % 625 ≠ 0 ∨ 32768 < v / 625) : fin v = none := by unfold fin; rw [if_pos h]
theorem fin_ok {v : Nat} (h1 : v % 625 = 0) (h2 : ¬ 32768 < v / 625) : fin v = some (v / 625) := by unfold fin; rw [if_neg (by omega)]
end Du
end Go.Proofs.YtcclepohmhdpbabGreatDoor
