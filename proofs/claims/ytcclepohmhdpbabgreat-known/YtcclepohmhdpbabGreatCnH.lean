import Derived.Test.YtcclepohmhdpbabGreatClJ
import Derived.Test.YtcclepohmhdpbabGreatCnG
/- THE WALKS: package clauses: Least; Validate. -/
namespace Go.Proofs.YtcclepohmhdpbabGreat
set_option linter.all false
open Go.RowKit Go.Deep

/-- The sizes of a polygon that can be asked. -/
structure SzL (l : Poly) : Prop where
  len : l.length ≤ 1048576
  ring : ∀ r ∈ l, r.length ≤ 1048575
  flat : l.flatten.length ≤ 1048575
  cd : Vd.CdL l
theorem Sz.at {m : Mult} (h : Sz m) {l : Poly} (hl : l ∈ m) : SzL l := ⟨h.poly l hl, h.ring l hl, h.flat l hl, h.cd l hl⟩
theorem SzL.ring' {l : Poly} (h : SzL l) : ∀ r ∈ l, r.length ≤ 1048576 := fun r hr => by have := h.ring r hr; omega
theorem holdsC1 (l : Poly) : Vd.holdsC 1 l = Vd.simple l := rfl
theorem holdsC2 (l : Poly) : Vd.holdsC 2 l = Vd.touch l := rfl
theorem holdsC3 (l : Poly) : Vd.holdsC 3 l = Vd.nested l := rfl
theorem holdsC4 (l : Poly) : Vd.holdsC 4 l = !(Vd.way l) := rfl
set_option maxHeartbeats 2000000 in
theorem holds_any (c : Nat) (hc : 1 ≤ c) (hc4 : c ≤ 4) (v : Value) (l : Poly) (w : World) (hv : Rd2 w v l) (hz : SzL l) :
    Calls Tryz.prog 22 #[.int .i64 c, v] w fun e w' => e = .returned (.bool (Vd.holdsC c l)) ∧ Up w w' := by
  have HV := hide hv
  have HZ := hide hz
  clear hv hz
  rcases (show c = 1 ∨ c = 2 ∨ c = 3 ∨ c = 4 from by omega) with rfl | rfl | rfl | rfl
  · rw [holdsC1]
    go_enter Tryz.func22, Tryz.ntmps22
    go_wp2_with (go_at_call 34; refine (areSimple_any _ l _ HV.out HZ.out.len HZ.out.ring' HZ.out.cd).mono ?_; rintro e w2 ⟨rfl, hz2⟩; replace hz2 := hide hz2)
    go_ret
    exact ⟨rfl, hz2.out⟩
  · rw [holdsC2]
    go_enter Tryz.func22, Tryz.ntmps22
    go_wp2_with (go_at_call 35; refine (touch_any _ l _ HV.out HZ.out.len HZ.out.ring' HZ.out.cd).mono ?_; rintro e w2 ⟨rfl, hz2⟩; replace hz2 := hide hz2)
    go_ret
    exact ⟨rfl, hz2.out⟩
  · rw [holdsC3]
    go_enter Tryz.func22, Tryz.ntmps22
    go_wp2_with (go_at_call 36; refine (nested_any _ l _ HV.out HZ.out.len HZ.out.ring HZ.out.cd).mono ?_; rintro e w2 ⟨rfl, hz2⟩; replace hz2 := hide hz2)
    go_ret
    exact ⟨rfl, hz2.out⟩
  · rw [holdsC4]
    go_enter Tryz.func22, Tryz.ntmps22
    go_wp2_with (go_at_call 37; refine (way_any _ l _ HV.out HZ.out.len HZ.out.ring' (by have := HZ.out.flat; omega) HZ.out.cd).mono ?_; rintro e w2 ⟨rfl, hz2⟩; replace hz2 := hide hz2)
    go_ret
    exact ⟨rfl, hz2.out⟩

theorem least_at {m : Mult} {k : Nat} (hk : k < 4) (h : ∀ j, 1 ≤ j → j ≤ k → Vd.badC j m = false) (hb : Vd.badC (k + 1) m = true) : Vd.least m = (k : Int) + 1 := by
  unfold Vd.least
  rcases (show k = 0 ∨ k = 1 ∨ k = 2 ∨ k = 3 from by omega) with rfl | rfl | rfl | rfl
  · simp [hb]
  · simp [h 1 (by omega) (by omega), hb]
  · simp [h 1 (by omega) (by omega), h 2 (by omega) (by omega), hb]
  · simp [h 1 (by omega) (by omega), h 2 (by omega) (by omega), h 3 (by omega) (by omega), hb]
theorem least_last {m : Mult} (h : ∀ j, 1 ≤ j → j ≤ 4 → Vd.badC j m = false) : Vd.least m = if Vd.overlap m = true then 5 else 0 := by
  unfold Vd.least
  simp [h 1 (by omega) (by omega), h 2 (by omega) (by omega), h 3 (by omega) (by omega), h 4 (by omega) (by omega)]

set_option maxHeartbeats 4000000 in
theorem least_any (v : Value) (m : Mult) (w : World) (hv : Rd3 w v m) (hz : Sz m) :
    Calls Tryz.prog 14 #[v] w fun e w' => e = .returned (.int .i64 (Vd.least m)) ∧ Up w w' := by
  have HV := hide hv
  obtain ⟨ao, cap, rfl, hM⟩ := hv
  have HM := hide hM
  have HZ := hide hz
  have hl := hz.len
  have HLa := hide (fun k => least_at (m := m) (k := k))
  have HLl := hide (least_last (m := m))
  clear hM hz
  go_enter Tryz.func14, Tryz.ntmps14
  go_wp2
  go_loopw [3] (fun i wr => ∃ k : Nat, i = .int .i64 ((k : Int) + 1) ∧ k ≤ 4 ∧ Hid (Up w wr) ∧ Hid (∀ j, 1 ≤ j → j ≤ k → Vd.badC j m = false)) (fun i _ => 5 - (intOf i).toNat)
  case atStart => exact ⟨0, rfl, Nat.zero_le _, Up.refl _, fun j h1 h2 => by omega⟩
  case round =>
    obtain ⟨k, rfl, hk, HU, HA⟩ := hrel
    by_cases hlt : k < 4
    · have i1 : (k : Int) + 1 ≤ 4 := by omega
      have HBd : Hid (Vd.badC (k + 1) m = m.any fun l => !(Vd.holdsC (k + 1) l)) := rfl
      go_wp2
      go_loopw [12] (fun i wr => ∃ q : Nat, i = .int .i64 q ∧ q ≤ m.length ∧ Hid (Up w wr) ∧ Hid ((m.take q).any (fun l => !(Vd.holdsC (k + 1) l)) = false)) (fun i _ => m.length - (intOf i).toNat)
      case atStart => exact ⟨0, rfl, Nat.zero_le _, HU, rfl⟩
      case round =>
        clear HU
        obtain ⟨q, rfl, hq, HU, HB⟩ := hrel
        by_cases hlq : q < m.length
        · obtain ⟨l, hl2⟩ := Pl.some_of_lt hlq
          obtain ⟨b, z, rfl, cu, hzo⟩ := HM.out q l hl2
          have Hz2 := hide (hzo.up HU.out)
          have cu2 := HU.out.cell cu
          have Hlz := hide (HZ.out.at (Pl.mem_of_some hl2))
          have HY := hide (Pl.any_take_succ (fun l => !(Vd.holdsC (k + 1) l)) hl2)
          have Hl := hide hl2
          clear hl2 cu hzo
          cases hx : Vd.holdsC (k + 1) l
          · have Hx := hide hx
            have HR := hide (HLa.out k hlt HA.out (by rw [HBd.out]; exact Pl.any_true_of _ Hl.out (by rw [hx]; rfl)))
            clear hx
            go_wp2_with (go_at_call 22; refine (holds_any (k + 1) (by omega) (by omega) _ l _ Hz2.out Hlz.out).mono ?_; rintro e w2 ⟨rfl, hz2⟩; rw [Hx.out]; replace hz2 := hide hz2)
            go_ret
            exact ⟨ret_i HR.out.symm, HU.out.trans hz2.out⟩
          · have Hx := hide hx
            clear hx
            go_wp2_with (go_at_call 22; refine (holds_any (k + 1) (by omega) (by omega) _ l _ Hz2.out Hlz.out).mono ?_; rintro e w2 ⟨rfl, hz2⟩; rw [Hx.out]; replace hz2 := hide hz2)
            go_roundw
            case rel => exact ⟨q + 1, by go_num, by omega, HU.out.trans hz2.out, by rw [HY.out, HB.out, Hx.out]; exact rfl⟩
            case measure => simp [intOf]; omega
        · have hq2 : q = m.length := by omega
          subst hq2
          rw [List.take_length] at HB
          have HA2 : Hid (∀ j, 1 ≤ j → j ≤ k + 1 → Vd.badC j m = false) := by
            intro j h1 h2
            by_cases e : j = k + 1
            · rw [e, HBd.out]; exact HB.out
            · exact HA.out j h1 (by omega)
          go_wp2
          go_roundw
          case rel => exact ⟨k + 1, by go_num, by omega, HU, HA2⟩
          case measure => simp [intOf]; omega
    · have hk2 : k = 4 := by omega
      have HR := hide (HLl.out (by rw [← hk2]; exact HA.out))
      have i1 : ¬ ((k : Int) + 1 ≤ 4) := by omega
      clear hk2
      go_wp2_with fail
      refine (overlap_any _ m _ (HV.out.up HU.out) HZ.out).mono ?_
      rintro e w2 ⟨rfl, hz2⟩
      replace hz2 := hide hz2
      cases hx : Vd.overlap m
      all_goals
        rw [hx] at HR
        go_wp2
        go_ret
        exact ⟨ret_i HR.out.symm, HU.out.trans hz2.out⟩

/-! ### the calls -/
theorem le_sum {x : Nat} : ∀ {l : List Nat}, x ∈ l → x ≤ l.sum := by
  intro l
  induction l with
  | nil => intro h; cases h
  | cons a t ih =>
    intro h
    rw [List.sum_cons]
    rcases List.mem_cons.1 h with rfl | h
    · omega
    · have := ih h; omega
theorem sz_of {m : Mult} (h : Pl.wrong m = 0) : Sz m := by
  have hmany : Pl.many m = false := by
    unfold Pl.wrong at h
    split at h
    · omega
    · rename_i k; simpa using k
  unfold Pl.many at hmany
  simp only [Bool.or_eq_false_iff, decide_eq_false_iff_not] at hmany
  obtain ⟨⟨h1, h2⟩, h3⟩ := hmany
  have nr : ∀ l ∈ m, l.length ≤ Pl.nR m := fun l hl => by
    unfold Pl.nR
    exact le_sum (List.mem_map_of_mem hl)
  have np : ∀ l ∈ m, Pl.nPl l ≤ Pl.nP m := fun l hl => by
    unfold Pl.nP
    exact le_sum (List.mem_map_of_mem hl)
  have nl : ∀ l : Poly, ∀ r ∈ l, r.length ≤ Pl.nPl l := fun l r hr => by
    unfold Pl.nPl
    exact le_sum (List.mem_map_of_mem hr)
  have nf : ∀ l : Poly, l.flatten.length = Pl.nPl l := fun l => by
    unfold Pl.nPl; rw [List.length_flatten]
  refine ⟨by omega, fun l hl => by have := nr l hl; omega, fun l hl r hr => ?_, fun l hl => ?_, Vd.cd_of h⟩
  · have := nl l r hr; have := np l hl; omega
  · rw [nf]; have := np l hl; omega
end Go.Proofs.YtcclepohmhdpbabGreat

/- THE WALKS: Validate, isValid. -/
namespace Go.Proofs.YtcclepohmhdpbabGreat
set_option linter.all false
open Go.RowKit Go.Deep

/-- A set in memory, as it is read. -/
structure SetR (w : World) (v : Value) (m : Mult) (b : Nat) (u : Value) : Prop where
  ptr : v = .pointer (some ⟨b, 0, none⟩)
  cell : VRow w b 42 [u]
  rd : Rd3 w u m
theorem SetR.up {w w' : World} {v : Value} {m : Mult} {b : Nat} {u : Value} (h : SetR w v m b u) (k : Up w w') : SetR w' v m b u := ⟨h.ptr, h.cell.up k, h.rd.up k⟩
theorem Set3.r {w : World} {v : Value} {m : Mult} {b : Nat} {d : D3} (h : Set3 w v m b d) : SetR w v m b d.v := ⟨h.ptr, h.cell, by have := h.ok.rd; rw [h.pts] at this; exact this⟩
set_option maxHeartbeats 1000000 in
theorem validate_any (v : Value) (m : Mult) (w : World) (b : Nat) (u : Value) (hs : SetR w v m b u) (hz : Sz m) :
    Calls Tryz.prog 9 #[v] w fun e w' => e = .returned (.int .i64 (Vd.least m)) ∧ Up w w' := by
  have HZ := hide hz
  have HR := hide hs.rd
  obtain ⟨rfl, hc, hr⟩ := hs
  obtain ⟨ao, cap, rfl, -⟩ := hr
  have c0 := hc.cell (i := 0) rfl
  clear hc hz
  go_enter Tryz.func9, Tryz.ntmps9
  go_wp2_with (go_at_call 14; refine (least_any _ m _ HR.out HZ.out).mono ?_; rintro e w2 ⟨rfl, hz2⟩; replace hz2 := hide hz2)
  go_ret
  exact ⟨rfl, hz2.out⟩
set_option maxHeartbeats 1000000 in
theorem isValid_any (v : Value) (m : Mult) (w : World) (b : Nat) (u : Value) (hs : SetR w v m b u) (hz : Sz m) :
    Calls Tryz.prog 15 #[v] w fun e w' => e = .returned (.bool (decide (Vd.least m = 0))) ∧ Up w w' := by
  have HZ := hide hz
  have HR := hide hs.rd
  obtain ⟨rfl, hc, hr⟩ := hs
  obtain ⟨ao, cap, rfl, -⟩ := hr
  have c0 := hc.cell (i := 0) rfl
  clear hc hz
  by_cases h : Vd.least m = 0
  · have H := hide h
    clear h
    go_enter Tryz.func15, Tryz.ntmps15
    go_wp2_with (go_at_call 14; refine (least_any _ m _ HR.out HZ.out).mono ?_; rintro e w2 ⟨rfl, hz2⟩; rw [H.out]; replace hz2 := hide hz2)
    go_ret
    exact ⟨ret_b (by rw [H.out]; rfl), hz2.out⟩
  · have H := hide h
    have h' := beq_eq_false_iff_ne.2 h
    go_enter Tryz.func15, Tryz.ntmps15
    go_wp2_with (go_at_call 14; refine (least_any _ m _ HR.out HZ.out).mono ?_; rintro e w2 ⟨rfl, hz2⟩; replace hz2 := hide hz2)
    go_ret
    exact ⟨ret_b (decide_eq_false H.out).symm, hz2.out⟩
theorem isValid_is {v : Value} {m : Mult} {w : World} {b : Nat} {u : Value} {B : Bool} (h : decide (Vd.least m = 0) = B) (hs : SetR w v m b u) (hz : Sz m) :
    Calls Tryz.prog 15 #[v] w fun e w' => e = .returned (.bool B) ∧ Up w w' := by
  have := isValid_any v m w b u hs hz; rwa [h] at this
end Go.Proofs.YtcclepohmhdpbabGreat

/- THE WALKS: Canonical. -/
namespace Go.Proofs.YtcclepohmhdpbabGreat
set_option linter.all false
open Go.RowKit Go.Deep

set_option maxRecDepth 8000 in
set_option maxHeartbeats 4000000 in
theorem canonical_invalid (v : Value) (m : Mult) (w : World) (g : Nat) (u : Value) (hs : SetR w v m g u) (hz : Sz m) (hv : Vd.least m ≠ 0) :
    Calls Tryz.prog 10 #[v] w fun e w' => e = .returned (.tuple #[.pointer none, .int .i64 7]) ∧ Up w w' := by
  have HK := hide (isValid_is (decide_eq_false hv) hs hz)
  obtain ⟨rfl, -, -⟩ := hs
  clear hz hv
  go_enter Tryz.func10, Tryz.ntmps10
  go_wp2_with fail
  refine HK.out.mono ?_
  rintro e w2 ⟨rfl, hu⟩
  replace hu := hide hu
  go_wp2
  go_ret2
  exact ⟨rfl, hu.out⟩
set_option maxRecDepth 8000 in
set_option maxHeartbeats 4000000 in
theorem canonical_ok (v : Value) (m : Mult) (w : World) (g : Nat) (u : Value) (hs : SetR w v m g u) (hz : Sz m) (hf : FZ m) (hv : Vd.least m = 0) :
    Calls Tryz.prog 10 #[v] w fun e w' => ∃ (b G : Nat) (X : List PG), e = .returned (.tuple #[.pointer (some ⟨b, 0, none⟩), .int .i64 0]) ∧ w.heap.size ≤ b ∧ VRow w' b 42 [.slice (some ⟨G, 0, none⟩) X.length X.length] ∧ NS w.heap.size w' G X ∧ PG.m X = Vd.form m ∧ Up w w' := by
  have HK := hide (isValid_is (decide_eq_true hv) hs hz)
  have HS := hide hs
  have HF := hide hf
  obtain ⟨rfl, -, -⟩ := hs
  obtain ⟨ua, uc, rfl, -⟩ := HS.out.rd
  clear hz hv hf
  go_enter Tryz.func10, Tryz.ntmps10
  go_wp2_with fail
  refine HK.out.mono ?_
  rintro e w2 ⟨rfl, hu⟩
  have HU := hide hu
  have c0 := ((HS.out.up hu).cell).cell (i := 0) rfl
  have HFm := hide (form_any _ m w2 (HS.out.rd.up hu) HF.out)
  clear hu HK
  go_wp2_with fail
  refine HFm.out.mono ?_
  rintro e w3 ⟨G, X, rfl, hN, hE, hu3⟩
  have HU3 := hide (HU.out.trans hu3)
  have hb : Hid (w.heap.size ≤ w2.heap.size) := HU.out.size
  have HN : Hid (NS w.heap.size (w3.alloc (.cells #[.slice (some ⟨G, 0, none⟩) X.length X.length] 42)) G X) :=
    ⟨Nat.le_trans hb.out hN.low, hN.row.up ((Up.refl _).alloc _), fun x hx => ((hN.ok x hx).base hb.out).up ((Up.refl _).alloc _)⟩
  have HE := hide hE
  have HR := hide (VRow.new w3 [.slice (some ⟨G, 0, none⟩) X.length X.length] 42)
  have hs3 : Hid (w.heap.size ≤ w3.heap.size) := HU3.out.size
  clear hN hE hu3 HFm c0
  go_wp2
  go_ret2
  exact ⟨w3.heap.size, G, X, rfl, hs3.out, HR.out, HN.out, HE.out, HU3.out.alloc _⟩
end Go.Proofs.YtcclepohmhdpbabGreat
