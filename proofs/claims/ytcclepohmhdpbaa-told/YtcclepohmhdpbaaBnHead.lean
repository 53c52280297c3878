/- THE PROGRAM's BYTES, READ: coordinates, heads. -/
import Derived.Test.YtcclepohmhdpbaaBnUnits
namespace Go.Proofs.Ytcclepohmhdpbaa
set_option linter.all false
open Go.RowKit Go.Deep

theorem RB.facts {w : World} {b : Nat} {l : List UInt8} {o : Nat} {bad off : Bool} (h : RB w b l o bad off) :
    w.cell? ⟨b, 0, none⟩ = some (.string (bs l)) ∧ w.cell? ⟨b, 1, none⟩ = some (.int .u64 o) ∧ w.cell? ⟨b, 2, none⟩ = some (.bool bad) ∧ w.cell? ⟨b, 3, none⟩ = some (.bool off) ∧ w.frozen? ⟨b, 0, none⟩ = false ∧ w.frozen? ⟨b, 1, none⟩ = false ∧ w.frozen? ⟨b, 2, none⟩ = false ∧ w.frozen? ⟨b, 3, none⟩ = false :=
  ⟨h.c0, h.c1, h.c2, h.c3, h.f 0, h.f 1, h.f 2, h.f 3⟩

set_option maxHeartbeats 1000000 in
theorem rcoord_bad (l : List UInt8) (o : Nat) (off bad : Bool) (rb : Nat) (w : World) (hr : RB w rb l o bad off) (hb : bad = true ∨ l.length < 8) (hl : l.length ≤ 6000) :
    Calls Try.prog 51 #[.pointer (some ⟨rb, 0, none⟩)] w fun e w' => e = .returned (.int .i64 0) ∧ RB w' rb l o true off ∧ Fr (· = rb) w w' := by
  have HR := hide hr
  have HB := hide hb
  have HU : Hid (optI (Bn.units 0) = .tuple #[.int .i64 0, .bool true]) := rfl
  clear hr hb
  go_enter Try.func51, Try.ntmps51
  go_wp2_with fail
  refine (rnum_bad 8 l o off bad rb _ HR.out HB.out hl (by omega)).mono ?_
  rintro e w1 ⟨rfl, h1, u1⟩
  replace h1 := hide h1
  replace u1 := hide u1
  go_wp2_with fail
  refine (wunits_any 0 _ (by omega)).mono ?_
  rintro e w2 ⟨rfl, rfl⟩
  rw [HU.out]
  go_wp2
  go_ret
  exact ⟨rfl, h1.out, u1.out⟩

set_option maxHeartbeats 1000000 in
theorem rcoord_ok (l : List UInt8) (o : Nat) (off : Bool) (rb : Nat) (w : World) (hr : RB w rb l o false off) (hl : ¬ l.length < 8) (hl6 : l.length ≤ 6000) (lit : Bool) (hlit : lit = ((o : Int) == 1)) :
    Calls Try.prog 51 #[.pointer (some ⟨rb, 0, none⟩)] w fun e w' => e = .returned (.int .i64 (Bn.coord (Bn.num lit (l.take 8)))) ∧ RB w' rb (l.drop 8) o false (off || (Bn.units (Bn.num lit (l.take 8))).isNone) ∧ Fr (· = rb) w w' := by
  have HR := hide hr
  have HL := hide hlit
  clear hr hlit
  have hX : Bn.num lit (l.take 8) < 18446744073709551616 := Bn.num_lt8 (by rw [List.length_take]; omega)
  obtain ⟨X, hX1⟩ : ∃ X, X = Bn.num lit (l.take 8) := ⟨_, rfl⟩
  rw [← hX1] at hX ⊢
  have HX := hide hX1
  clear hX1
  go_enter Try.func51, Try.ntmps51
  go_wp2_with fail
  refine (rnum_ok 8 l o off rb _ HR.out hl hl6 (by omega) lit HL.out).mono ?_
  rintro e w1 ⟨rfl, h1, u1⟩
  rw [← HX.out]
  obtain ⟨-, -, -, c3, -, -, -, f3⟩ := h1.facts
  replace h1 := hide h1
  replace u1 := hide u1
  go_wp2_with fail
  refine (wunits_any X _ hX).mono ?_
  rintro e w2 ⟨rfl, rfl⟩
  obtain ⟨U, hU⟩ : ∃ U, U = Bn.units X := ⟨_, rfl⟩
  rw [← hU]
  have HU := hide hU
  clear hU
  cases U with
  | none =>
    rw [optI]
    go_wp2
    go_ret
    unfold Bn.coord
    rw [← HU.out]
    refine ⟨rfl, ?_, u1.out.setCell (p := ⟨rb, 3, none⟩) rfl _⟩
    have := h1.out.off true
    simpa using this
  | some k =>
    rw [optI]
    go_wp2
    go_ret
    unfold Bn.coord
    rw [← HU.out]
    refine ⟨rfl, ?_, u1.out⟩
    have := h1.out
    simpa using this

namespace Bn
theorem num_one (lit : Bool) {l : List UInt8} (h : ¬ l.length < 1) : num lit (l.take 1) = num false (l.take 1) := by
  cases l with
  | nil => simp at h
  | cons c t => cases lit <;> rfl
end Bn

set_option maxHeartbeats 4000000 in
theorem rgeom_any (kind : Nat) (hk : 0 < kind) (hk2 : kind < 100) (l : List UInt8) (o0 : Nat) (off : Bool) (rb : Nat) (w : World) (hr : RB w rb l o0 false off) (hl : l.length ≤ 6000) :
    Calls Try.prog 25 #[.pointer (some ⟨rb, 0, none⟩), .int .u64 kind] w fun e w' => ∃ (v : Nat) (l' : List UInt8) (o : Nat) (bad : Bool), e = .returned (.int .u64 v) ∧ RB w' rb l' o bad off ∧ Fr (· = rb) w w' ∧ Bn.head kind l = (if bad = true then none else some (((o : Int) == 1), v, l')) ∧ v < 4294967296 ∧ l'.length ≤ 6000 := by
  have HR := hide hr
  clear hr
  have kne : ((0 : Int) == (kind : Int)) = false := beq_eq_false_iff_ne.2 (by omega)
  by_cases hA : l.length < 1
  · have HH : Hid (Bn.head kind l = none) := by show _ = _; unfold Bn.head; rw [Bn.cut_none hA]; rfl
    go_enter Try.func25, Try.ntmps25
    go_wp2_with fail
    refine (rnum_bad 1 l o0 off false rb _ HR.out (.inr hA) hl (by omega)).mono ?_
    rintro e w1 ⟨rfl, h1, u1⟩
    obtain ⟨a0, a1, a2, a3, a4, a5, a6, a7⟩ := h1.facts
    have h2 := h1.ord 0
    obtain ⟨b0, b1, b2, b3, b4, b5, b6, b7⟩ := h2.facts
    replace h2 := hide h2
    replace u1 := hide u1
    clear h1
    go_wp2_with fail
    refine (rnum_bad 4 l 0 off true rb _ h2.out (.inl rfl) hl (by omega)).mono ?_
    rintro e w2 ⟨rfl, h3, u3⟩
    obtain ⟨a0', a1', a2', a3', a4', a5', a6', a7'⟩ := h3.facts
    have h4 := hide (h3.bad true)
    replace u3 := hide u3
    clear h3
    go_wp2_with fail
    refine (rnum_bad 4 l 0 off true rb _ h4.out (.inl rfl) hl (by omega)).mono ?_
    rintro e w3 ⟨rfl, h5, u5⟩
    replace h5 := hide h5
    replace u5 := hide u5
    go_wp2
    go_ret
    exact ⟨0, l, 0, true, rfl, h5.out, (((u1.out.setCell (p := ⟨rb, 1, none⟩) rfl _).trans u3.out).setCell (p := ⟨rb, 2, none⟩) rfl _).trans u5.out, HH.out, by omega, hl⟩
  · have HN := hide (Bn.num_one ((o0 : Int) == 1) hA)
    have HH := hide (show Bn.head kind l = _ by unfold Bn.head; rw [Bn.cut_some hA, Option.bind_some])
    have hc : Bn.num false (l.take 1) < 256 := by
      have := Bn.num_lt false (l.take 1)
      rw [List.length_take, Nat.min_eq_left (by omega)] at this
      simpa using this
    obtain ⟨c, hc1⟩ : ∃ c, c = Bn.num false (l.take 1) := ⟨_, rfl⟩
    obtain ⟨t, ht⟩ : ∃ t, t = l.drop 1 := ⟨_, rfl⟩
    have htl : t.length ≤ 6000 := by rw [ht]; simp; omega
    rw [← hc1] at HN HH hc
    rw [← ht] at HH
    have HT := hide ht
    clear hc1 ht
    by_cases hB : 1 < c
    · have HH' : Hid (Bn.head kind l = none) := by rw [HH.out, if_pos hB]; exact rfl
      have c0b : ((c : Int) != 0) = true := bne_iff_ne.2 (by omega)
      have c1b : ((c : Int) != 1) = true := bne_iff_ne.2 (by omega)
      clear HH
      go_enter Try.func25, Try.ntmps25
      go_wp2_with fail
      refine (rnum_ok 1 l o0 off rb _ HR.out hA hl (by omega) _ rfl).mono ?_
      rintro e w1 ⟨rfl, h1, u1⟩
      rw [HN.out]
      rw [← HT.out] at h1
      obtain ⟨a0, a1, a2, a3, a4, a5, a6, a7⟩ := h1.facts
      have h2 := h1.ord c
      obtain ⟨b0, b1, b2, b3, b4, b5, b6, b7⟩ := h2.facts
      have h2b := hide (h2.bad true)
      replace u1 := hide u1
      clear h1 h2
      go_wp2_with fail
      refine (rnum_bad 4 t c off true rb _ h2b.out (.inl rfl) htl (by omega)).mono ?_
      rintro e w2 ⟨rfl, h3, u3⟩
      obtain ⟨a0', a1', a2', a3', a4', a5', a6', a7'⟩ := h3.facts
      have h4 := hide (h3.bad true)
      replace u3 := hide u3
      clear h3
      go_wp2_with fail
      refine (rnum_bad 4 t c off true rb _ h4.out (.inl rfl) htl (by omega)).mono ?_
      rintro e w3 ⟨rfl, h5, u5⟩
      replace h5 := hide h5
      replace u5 := hide u5
      go_wp2
      go_ret
      exact ⟨0, t, c, true, rfl, h5.out, ((((u1.out.setCell (p := ⟨rb, 1, none⟩) rfl _).setCell (p := ⟨rb, 2, none⟩) rfl _).trans u3.out).setCell (p := ⟨rb, 2, none⟩) rfl _).trans u5.out, HH'.out, by omega, htl⟩
    · rw [if_neg hB] at HH
      have HL : Hid ((c == 1) = ((c : Int) == 1)) := by
        show _ = _
        rcases (show c = 0 ∨ c = 1 by omega) with rfl | rfl <;> rfl
      rw [HL.out] at HH
      have hd : (((c : Int) != 0) = false) ∨ (((c : Int) != 0) = true ∧ ((c : Int) != 1) = false) := by
        rcases (show c = 0 ∨ c = 1 by omega) with rfl | rfl
        · exact .inl rfl
        · exact .inr ⟨rfl, rfl⟩
      by_cases hC : t.length < 4
      · have HH' : Hid (Bn.head kind l = none) := by rw [HH.out, Bn.cut_none hC]; exact rfl
        clear HH
        rcases hd with d0 | ⟨d0, d1⟩
        all_goals
          go_enter Try.func25, Try.ntmps25
          go_wp2_with fail
          refine (rnum_ok 1 l o0 off rb _ HR.out hA hl (by omega) _ rfl).mono ?_
          rintro e w1 ⟨rfl, h1, u1⟩
          rw [HN.out]
          rw [← HT.out] at h1
          obtain ⟨a0, a1, a2, a3, a4, a5, a6, a7⟩ := h1.facts
          have h2 := hide (h1.ord c)
          obtain ⟨b0, b1, b2, b3, b4, b5, b6, b7⟩ := RB.facts (h1.ord c)
          replace u1 := hide u1
          clear h1
          go_wp2_with fail
          refine (rnum_bad 4 t _ off false rb _ h2.out (.inr hC) htl (by omega)).mono ?_
          rintro e w2 ⟨rfl, h3, u3⟩
          obtain ⟨a0', a1', a2', a3', a4', a5', a6', a7'⟩ := h3.facts
          have h4 := hide (h3.bad true)
          replace u3 := hide u3
          clear h3
          go_wp2_with fail
          refine (rnum_bad 4 t _ off true rb _ h4.out (.inl rfl) htl (by omega)).mono ?_
          rintro e w3 ⟨rfl, h5, u5⟩
          replace h5 := hide h5
          replace u5 := hide u5
          go_wp2
          go_ret
          exact ⟨0, t, _, true, rfl, h5.out, (((u1.out.setCell (p := ⟨rb, 1, none⟩) rfl _).trans u3.out).setCell (p := ⟨rb, 2, none⟩) rfl _).trans u5.out, HH'.out, by omega, htl⟩
      · rw [Bn.cut_some hC, Option.bind_some] at HH
        have hy : Bn.num ((c : Int) == 1) (t.take 4) < 4294967296 := Bn.num_lt4 (by rw [List.length_take]; omega)
        obtain ⟨y, hy1⟩ : ∃ y, y = Bn.num ((c : Int) == 1) (t.take 4) := ⟨_, rfl⟩
        obtain ⟨u, hu⟩ : ∃ u, u = t.drop 4 := ⟨_, rfl⟩
        have hul : u.length ≤ 6000 := by rw [hu]; simp; omega
        rw [← hy1] at HH hy
        rw [← hu] at HH
        have HY := hide hy1
        have HU := hide hu
        clear hy1 hu
        by_cases hD : y = kind
        · rw [if_neg (by simpa using hD)] at HH
          have hDb : ((y : Int) != (kind : Int)) = false := bne_eq_false_iff_eq.2 (by omega)
          by_cases hE : u.length < 4
          · have HH' : Hid (Bn.head kind l = none) := by rw [HH.out, Bn.cut_none hE]; exact rfl
            clear HH
            rcases hd with d0 | ⟨d0, d1⟩
            all_goals
              go_enter Try.func25, Try.ntmps25
              go_wp2_with fail
              refine (rnum_ok 1 l o0 off rb _ HR.out hA hl (by omega) _ rfl).mono ?_
              rintro e w1 ⟨rfl, h1, u1⟩
              rw [HN.out]
              rw [← HT.out] at h1
              obtain ⟨a0, a1, a2, a3, a4, a5, a6, a7⟩ := h1.facts
              have h2 := hide (h1.ord c)
              obtain ⟨b0, b1, b2, b3, b4, b5, b6, b7⟩ := RB.facts (h1.ord c)
              replace u1 := hide u1
              clear h1
              go_wp2_with fail
              refine (rnum_ok 4 t _ off rb _ h2.out hC htl (by omega) _ rfl).mono ?_
              rintro e w2 ⟨rfl, h3, u3⟩
              rw [← HY.out]
              rw [← HU.out] at h3
              obtain ⟨a0', a1', a2', a3', a4', a5', a6', a7'⟩ := h3.facts
              have h4 := hide (h3.bad true)
              replace u3 := hide u3
              replace h3 := hide h3
              go_wp2_with fail
              refine (rnum_bad 4 u _ off false rb _ h3.out (.inr hE) hul (by omega)).mono ?_
              rintro e w3 ⟨rfl, h5, u5⟩
              replace h5 := hide h5
              replace u5 := hide u5
              go_wp2
              go_ret
              exact ⟨0, u, _, true, rfl, h5.out, ((u1.out.setCell (p := ⟨rb, 1, none⟩) rfl _).trans u3.out).trans u5.out, HH'.out, by omega, hul⟩
          · rw [Bn.cut_some hE, Option.bind_some] at HH
            have hz : Bn.num ((c : Int) == 1) (u.take 4) < 4294967296 := Bn.num_lt4 (by rw [List.length_take]; omega)
            rcases hd with d0 | ⟨d0, d1⟩
            all_goals
              go_enter Try.func25, Try.ntmps25
              go_wp2_with fail
              refine (rnum_ok 1 l o0 off rb _ HR.out hA hl (by omega) _ rfl).mono ?_
              rintro e w1 ⟨rfl, h1, u1⟩
              rw [HN.out]
              rw [← HT.out] at h1
              obtain ⟨a0, a1, a2, a3, a4, a5, a6, a7⟩ := h1.facts
              have h2 := hide (h1.ord c)
              obtain ⟨b0, b1, b2, b3, b4, b5, b6, b7⟩ := RB.facts (h1.ord c)
              replace u1 := hide u1
              clear h1
              go_wp2_with fail
              refine (rnum_ok 4 t _ off rb _ h2.out hC htl (by omega) _ rfl).mono ?_
              rintro e w2 ⟨rfl, h3, u3⟩
              rw [← HY.out]
              rw [← HU.out] at h3
              obtain ⟨a0', a1', a2', a3', a4', a5', a6', a7'⟩ := h3.facts
              have h4 := hide (h3.bad true)
              replace u3 := hide u3
              replace h3 := hide h3
              go_wp2_with fail
              refine (rnum_ok 4 u _ off rb _ h3.out hE hul (by omega) _ rfl).mono ?_
              rintro e w3 ⟨rfl, h5, u5⟩
              replace h5 := hide h5
              replace u5 := hide u5
              go_wp2
              go_ret
              exact ⟨_, _, _, false, rfl, h5.out, ((u1.out.setCell (p := ⟨rb, 1, none⟩) rfl _).trans u3.out).trans u5.out, HH.out, hz, by simp; omega⟩
        · rw [if_pos (by simpa using hD)] at HH
          have hDb : ((y : Int) != (kind : Int)) = true := bne_iff_ne.2 (by omega)
          rcases hd with d0 | ⟨d0, d1⟩
          all_goals
            go_enter Try.func25, Try.ntmps25
            go_wp2_with fail
            refine (rnum_ok 1 l o0 off rb _ HR.out hA hl (by omega) _ rfl).mono ?_
            rintro e w1 ⟨rfl, h1, u1⟩
            rw [HN.out]
            rw [← HT.out] at h1
            obtain ⟨a0, a1, a2, a3, a4, a5, a6, a7⟩ := h1.facts
            have h2 := hide (h1.ord c)
            obtain ⟨b0, b1, b2, b3, b4, b5, b6, b7⟩ := RB.facts (h1.ord c)
            replace u1 := hide u1
            clear h1
            go_wp2_with fail
            refine (rnum_ok 4 t _ off rb _ h2.out hC htl (by omega) _ rfl).mono ?_
            rintro e w2 ⟨rfl, h3, u3⟩
            rw [← HY.out]
            rw [← HU.out] at h3
            obtain ⟨a0', a1', a2', a3', a4', a5', a6', a7'⟩ := h3.facts
            have h4 := hide (h3.bad true)
            replace u3 := hide u3
            replace h3 := hide h3
            go_wp2_with fail
            refine (rnum_bad 4 u _ off true rb _ h4.out (.inl rfl) hul (by omega)).mono ?_
            rintro e w3 ⟨rfl, h5, u5⟩
            replace h5 := hide h5
            replace u5 := hide u5
            go_wp2
            go_ret
            exact ⟨0, u, _, true, rfl, h5.out, (((u1.out.setCell (p := ⟨rb, 1, none⟩) rfl _).trans u3.out).setCell (p := ⟨rb, 2, none⟩) rfl _).trans u5.out, HH.out, by omega, hul⟩
end Go.Proofs.Ytcclepohmhdpbaa
