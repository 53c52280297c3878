import Derived.Test.YtcclepohmhdpbaaGreatDoorRfF
import Derived.Test.YtcclepohmhdpbaaGreatDoorRfB
/- THE DOCUMENT's WALKS: all. -/
namespace Go.Proofs.YtcclepohmhdpbaaGreatDoor
set_option linter.all false
open Go.RowKit Go.Deep

theorem midsD_two {a b : Pnt} {rings : Poly} : ∀ (n : Nat) (x : Pnt), ∀ m ∈ Vd.midsD a b rings n x, m.2 = 2 := by
  intro n
  induction n with
  | zero => intro x m h; cases h
  | succ n ih =>
    intro x m h
    unfold Vd.midsD at h
    split at h
    · cases h
    · rcases List.mem_cons.1 h with rfl | h
      · rfl
      · exact ih _ m h
theorem midsD_sp {a b : Pnt} {rings : Poly} (hb : Vd.Cd b) (hc : Vd.CdL rings) : ∀ (n : Nat) (x : Pnt), Vd.Cd x → ∀ m ∈ Vd.midsD a b rings n x, Vd.Sp m := by
  intro n
  induction n with
  | zero => intro x _ m h; cases h
  | succ n ih =>
    intro x hx m h
    unfold Vd.midsD at h
    have hn := Vd.nextD_cd (a := a) (b := b) (x := x) hb hc
    split at h
    · cases h
    · rcases List.mem_cons.1 h with rfl | h
      · unfold Vd.Cd at hx hn
        unfold Vd.Sp Vd.midOf
        simp only
        omega
      · exact ih _ hn m h
theorem midD_len (a b : Pnt) (rings : Poly) : (Vd.midD a b rings).length ≤ rings.flatten.length + 1 := by
  unfold Vd.midD
  generalize rings.flatten.length + 1 = n
  have key : ∀ (n : Nat) (x : Pnt), (Vd.midsD a b rings n x).length ≤ n := by
    intro n
    induction n with
    | zero => intro x; exact Nat.le_refl _
    | succ n ih => intro x; unfold Vd.midsD; split; exact Nat.zero_le _; simp only [List.length_cons]; have := ih (Vd.nextD a b x rings); omega
  exact key n a

set_option maxRecDepth 4000 in
set_option maxHeartbeats 8000000 in
theorem all_any {o : Nat} (v u : Value) (r : Ring) (r0 : Ring) (t : List Ring) (so : Int) (w : World) (hv : Rd1 w v r) (hu : Rdo o w u (r0 :: t)) (hr : r.length ≤ 1048576) (hl : t.length ≤ 1048575) (hl2 : ∀ r ∈ r0 :: t, r.length ≤ 1048576) (hf : (r0 :: t).flatten.length ≤ 1048576) (hc : Vd.CdR r) (hc2 : Vd.CdL (r0 :: t)) :
    Calls Tryz.prog 130 #[v, u, .int .i64 so] w fun e w' => e = .returned (.bool (Vd.allD r (r0 :: t) so)) ∧ Up w w' := by
  obtain ⟨ao, cap, rfl, hm⟩ := hv
  have HM := hide hm
  have HV2 := hide hu
  obtain ⟨ao2, cap2, rfl, -⟩ := HV2.out
  have HC := hide hc
  have HC2 := hide hc2
  have HL := hide hl2
  have HF2 := hide hf
  have hl3 : (r0 :: t).length ≤ 1048576 := by simp only [List.length_cons]; omega
  obtain ⟨f, hf'⟩ : ∃ f : Vd.Seg → Bool, f = fun s => (Vd.midD s.1 s.2 (r0 :: t)).any fun m => decide (Vd.inP (r0 :: t) m ≠ so) := ⟨_, rfl⟩
  have HT : Hid (Vd.allD r (r0 :: t) so = !((Vd.segs r).any f)) := by subst hf'; exact rfl
  have HF : Hid (∀ s, f s = (Vd.midD s.1 s.2 (r0 :: t)).any fun m => decide (Vd.inP (r0 :: t) m ≠ so)) := by subst hf'; exact fun _ => rfl
  have HLen := hide (fun a b => midD_len a b (r0 :: t))
  have HSp : Hid (∀ a b, Vd.Cd a → Vd.Cd b → ∀ m ∈ Vd.midD a b (r0 :: t), Vd.Sp m) := fun a b ha hb m hm => midsD_sp hb hc2 _ a ha m hm
  have HTw : Hid (∀ a b, ∀ m ∈ Vd.midD a b (r0 :: t), m.2 = 2) := fun a b m hm => midsD_two _ a m hm
  clear hm hu hc hc2 hl2 hf hf'
  go_enter Tryz.func130, Tryz.ntmps130
  go_wp2
  go_loopw [7] (fun i wr => ∃ k : Nat, i = .int .i64 k ∧ k ≤ r.length ∧ Hid (Up w wr) ∧ Hid ((Vd.segs r).any f = ((Vd.segs r).drop k).any f)) (fun i _ => r.length - (intOf i).toNat)
  case atStart => exact ⟨0, rfl, Nat.zero_le _, Up.refl _, rfl⟩
  case round =>
    obtain ⟨k, rfl, hk, HU, HA⟩ := hrel
    by_cases hlt : k + 1 < r.length
    · obtain ⟨⟨ax, ay⟩, hpa⟩ := Pl.some_of_lt (show k < r.length by omega)
      obtain ⟨⟨bx, bY⟩, hpb⟩ := Pl.some_of_lt hlt
      obtain ⟨g, rfl, c0, c1⟩ := HM.out k _ hpa
      obtain ⟨g', e', d0, d1⟩ := HM.out (k + 1) _ hpb
      cases e'
      have ca := hide (HC.out _ (Pl.mem_of_some hpa))
      have cb := hide (HC.out _ (Pl.mem_of_some hpb))
      replace HA := hide (HA.out.trans (any_drop (Vd.segs_at hpa hpb)))
      rw [HF.out] at HA
      have c0' := HU.out.cell c0
      have c1' := HU.out.cell c1
      have d0' := HU.out.cell d0
      have d1' := HU.out.cell d1
      have i1 : (0 : Int) ≤ (k : Int) := by omega
      have i2 : (k : Int) < (r.length : Int) := by omega
      have i3 : (k : Int) + 1 < (r.length : Int) := by omega
      have i4 : (0 : Int) ≤ (k : Int) + 1 := by omega
      have i5 : IntKind.i64.wrap ((k : Int) + 1) = (k : Int) + 1 := wrap_id (by omega) (by omega)
      have i6 : wrap64 ((k : Int) + 1) = (k : Int) + 1 := w64 (by omega) (by omega)
      clear hpa hpb c0 c1 d0 d1
      try dsimp only at c0' c1' d0' d1'
      go_wp2
      go_region_held3 (fun w' => w'.cell? ⟨g, k * 2, none⟩ = some (.int .i64 ax) ∧ w'.cell? ⟨g, k * 2 + 1, none⟩ = some (.int .i64 ay) ∧ w'.cell? ⟨g, (k + 1) * 2, none⟩ = some (.int .i64 bx) ∧ w'.cell? ⟨g, (k + 1) * 2 + 1, none⟩ = some (.int .i64 bY)) (go_keep)
        (first | (go_at_call 166; refine (midD_any (ax, ay) (bx, bY) _ (r0 :: t) _ ca.out cb.out (HV2.out.up (HU.out.drew)) hl3 HL.out HF2.out HC2.out).mono ?_; rintro e w2 ⟨mv, rfl, hz, ho⟩; have HUm := hide (HU.out.drew.trans hz); have HOm := hide ho; have k0 := (((Up.refl wr).drew).trans hz).cell c0'; have k1 := (((Up.refl wr).drew).trans hz).cell c1'; have k2 := (((Up.refl wr).drew).trans hz).cell d0'; have k3 := (((Up.refl wr).drew).trans hz).cell d1'; clear hz ho))
      obtain ⟨ma, mc, rfl⟩ := own_len HOm.out
      have hLl := HLen.out (ax, ay) (bx, bY)
      have hF3 := HF2.out
      have HS2 := hide (HSp.out (ax, ay) (bx, bY) ca.out cb.out)
      have HW2 := hide (HTw.out (ax, ay) (bx, bY))
      generalize Vd.midD (ax, ay) (bx, bY) (r0 :: t) = L at *
      have hRd : Rd1 w2 (.slice ma L.length mc) (L.map (·.1)) := own_rd1 (by rw [List.length_map]; exact HOm.out)
      obtain ⟨ma', mc', e', hmm⟩ := hRd
      simp only [List.length_map, Value.slice.injEq] at e'
      obtain ⟨rfl, -, rfl⟩ := e'
      have HMM := hide hmm
      have hLb : L.length ≤ 1048577 := by omega
      clear k0 k1 k2 k3 c0' c1' d0' d1' hLl hF3 hmm i5 i6
      go_wp2
      go_loopw [9] (fun i wq => ∃ q : Nat, i = .int .i64 q ∧ q ≤ L.length ∧ Hid (Up w2 wq) ∧ Hid ((Vd.segs r).any f = ((L.drop q).any (fun m => decide (Vd.inP (r0 :: t) m ≠ so)) || ((Vd.segs r).drop (k + 1)).any f))) (fun i _ => L.length - (intOf i).toNat)
      case atStart => exact ⟨0, rfl, Nat.zero_le _, Up.refl _, HA⟩
      case round =>
        clear HU HA
        obtain ⟨q, rfl, hq, HUq, HA⟩ := hrel
        by_cases hlq : q < L.length
        · obtain ⟨⟨⟨mx, my⟩, md⟩, hm⟩ := Pl.some_of_lt hlq
          have e2 := HW2.out _ (Pl.mem_of_some hm)
          simp only at e2
          subst e2
          have HSm := hide (HS2.out _ (Pl.mem_of_some hm))
          obtain ⟨gm, rfl, c0, c1⟩ := HMM.out q (mx, my) (by rw [List.getElem?_map, hm]; rfl)
          rw [any_drop hm] at HA
          have c0' := HUq.out.cell c0
          have c1' := HUq.out.cell c1
          try dsimp only at c0' c1'
          have i7 : (0 : Int) ≤ (q : Int) := by omega
          have i8 : (q : Int) < (L.length : Int) := by omega
          clear hm c0 c1
          go_wp2_with fail
          refine (in_any _ r0 t ((mx, my), 2) _ (HV2.out.up (HUm.out.trans HUq.out)) hl HL.out HC2.out HSm.out).mono ?_
          rintro e w3 ⟨rfl, hz⟩
          have HU3 := hide (HUq.out.trans hz)
          generalize Vd.inP (r0 :: t) ((mx, my), 2) = I at *
          clear hz c0' c1' i7 i8
          by_cases hI : I = so
          · have HA2 : Hid ((Vd.segs r).any f = ((L.drop (q + 1)).any (fun m => decide (Vd.inP (r0 :: t) m ≠ so)) || ((Vd.segs r).drop (k + 1)).any f)) := by
              show _ = _
              rw [HA.out]; simp [hI]
            subst hI
            go_wp2
            go_roundw
            case rel => exact ⟨q + 1, by go_num, by omega, HU3, HA2⟩
            case measure => simp [intOf]; omega
          · have HR : Hid (Vd.allD r (r0 :: t) so = false) := by
              show _ = _
              rw [HT.out, HA.out]; simp [hI]
            have hI' := beq_eq_false_iff_ne.2 hI
            have hI2 := bne_iff_ne.2 hI
            go_wp2
            go_ret
            exact ⟨ret_b HR.out.symm, HUm.out.trans HU3.out⟩
        · have HA2 : Hid ((Vd.segs r).any f = ((Vd.segs r).drop (k + 1)).any f) := by
            show _ = _
            rw [HA.out, any_done (by omega)]; rfl
          go_wp2
          go_roundw
          case rel => exact ⟨k + 1, by go_num, by omega, HUm.out.trans HUq.out, HA2⟩
          case measure => simp [intOf]; omega
    · have HR : Hid (Vd.allD r (r0 :: t) so = true) := by
        show _ = _
        rw [HT.out, HA.out, any_done (by rw [Vd.segs_len]; omega)]; rfl
      go_wp2
      go_ret
      exact ⟨ret_b HR.out.symm, HU.out⟩
end Go.Proofs.YtcclepohmhdpbaaGreatDoor

/- THE DOCUMENT's WAY ROUND, PLAINLY: a table of rings and points, thinned out. -/
namespace Go.Proofs.YtcclepohmhdpbaaGreatDoor
set_option linter.all false
namespace Vd

/-- F is a part of the table M in which no one stands alone. -/
structure IC (M : Nat → Nat → Bool) (F : Nat → Nat → Prop) : Prop where
  le : ∀ r k, F r k → M r k = true
  pt : ∀ r k, F r k → ∃ s, s ≠ r ∧ F s k
  ring : ∀ r k, F r k → ∃ j, j ≠ k ∧ F r j
/-- a table with one place struck. -/
def strike (M : Nat → Nat → Bool) (r k : Nat) : Nat → Nat → Bool := fun s j => if s = r ∧ j = k then false else M s j
theorem strike_le {M : Nat → Nat → Bool} {r k s j : Nat} (h : strike M r k s j = true) : M s j = true := by
  unfold strike at h; split at h
  · cases h
  · exact h
theorem strike_at (M : Nat → Nat → Bool) (r k : Nat) : strike M r k r k = false := by unfold strike; rw [if_pos ⟨rfl, rfl⟩]
theorem strike_ne {M : Nat → Nat → Bool} {r k s j : Nat} (h : ¬ (s = r ∧ j = k)) : strike M r k s j = M s j := by unfold strike; rw [if_neg h]
/-- a point of one ring alone goes. -/
theorem IC.strike_pt {M : Nat → Nat → Bool} {F : Nat → Nat → Prop} (h : IC M F) {r k : Nat} (hk : ∀ s, s ≠ r → M s k = false) : IC (strike M r k) F := by
  have no : ¬ F r k := fun hf => by
    obtain ⟨s, hs, hf2⟩ := h.pt r k hf
    have := h.le s k hf2
    rw [hk s hs] at this
    cases this
  refine ⟨fun s j hf => ?_, h.pt, h.ring⟩
  rw [strike_ne (fun e => no (by rw [← e.1, ← e.2]; exact hf))]
  exact h.le s j hf
/-- a ring with one point goes. -/
theorem IC.strike_ring {M : Nat → Nat → Bool} {F : Nat → Nat → Prop} (h : IC M F) {r k : Nat} (hk : ∀ j, j ≠ k → M r j = false) : IC (strike M r k) F := by
  have no : ¬ F r k := fun hf => by
    obtain ⟨j, hj, hf2⟩ := h.ring r k hf
    have := h.le r j hf2
    rw [hk j hj] at this
    cases this
  refine ⟨fun s j hf => ?_, h.pt, h.ring⟩
  rw [strike_ne (fun e => no (by rw [← e.1, ← e.2]; exact hf))]
  exact h.le s j hf

/-- The table at the beginning. -/
def tab0 (l : Poly) (pts : List Pnt) (r k : Nat) : Bool := match pts[k]? with
  | some p => decide (r < l.length) && decide (inRing (rAt l r) (at1 p) = 0)
  | none => false
theorem tab0_some {l : Poly} {pts : List Pnt} {r k : Nat} (h : tab0 l pts r k = true) : ∃ p, pts[k]? = some p ∧ r < l.length ∧ inRing (rAt l r) (at1 p) = 0 := by
  unfold tab0 at h
  split at h
  · rename_i p e
    rw [Bool.and_eq_true] at h
    exact ⟨p, e, of_decide_eq_true h.1, of_decide_eq_true h.2⟩
  · cases h
theorem tab0_of {l : Poly} {pts : List Pnt} {r k : Nat} {p : Pnt} (e : pts[k]? = some p) (h1 : r < l.length) (h2 : inRing (rAt l r) (at1 p) = 0) : tab0 l pts r k = true := by
  unfold tab0; rw [e]; simp [h1, h2]
theorem nodupR_at {pts : List Pnt} (h : pts.Nodup) {i j : Nat} {p : Pnt} (hi : pts[i]? = some p) (hj : pts[j]? = some p) : i = j := by
  obtain ⟨h1, e1⟩ := List.getElem?_eq_some_iff.1 hi
  obtain ⟨h2, e2⟩ := List.getElem?_eq_some_iff.1 hj
  rcases Nat.lt_trichotomy i j with q | q | q
  · exact absurd (e1.trans e2.symm) (List.pairwise_iff_getElem.1 h i j h1 h2 q)
  · exact q
  · exact absurd (e2.trans e1.symm) (List.pairwise_iff_getElem.1 h j i h2 h1 q)
theorem docCore_tab {l : Poly} {pts : List Pnt} (hn : pts.Nodup) (hm : ∀ p, p ∈ pts ↔ p ∈ l.flatten) : docCore l ↔ ∃ F, IC (tab0 l pts) F ∧ ∃ r k, F r k := by
  constructor
  · rintro ⟨F, h1, h2, r, q, hf⟩
    have at_ : ∀ r q, F r q → ∃ k, pts[k]? = some q := fun r q hf => by
      obtain ⟨k, hk, e⟩ := List.getElem_of_mem ((hm q).2 (h1 r q hf).2.2)
      exact ⟨k, by rw [List.getElem?_eq_getElem hk, e]⟩
    refine ⟨fun r k => ∃ p, pts[k]? = some p ∧ F r p, ⟨?_, ?_, ?_⟩, ?_⟩
    · rintro r k ⟨p, e, hf⟩
      exact tab0_of e (h1 r p hf).1 (h1 r p hf).2.1
    · rintro r k ⟨p, e, hf⟩
      obtain ⟨s, hs, hf2⟩ := h2.pt r p hf
      exact ⟨s, hs, p, e, hf2⟩
    · rintro r k ⟨p, e, hf⟩
      obtain ⟨p', hp, hf2⟩ := h2.ring r p hf
      obtain ⟨j, ej⟩ := at_ r p' hf2
      exact ⟨j, fun e2 => hp (by rw [e2, e] at ej; exact (Option.some.inj ej).symm), p', ej, hf2⟩
    · obtain ⟨k, e⟩ := at_ r q hf
      exact ⟨r, k, q, e, hf⟩
  · rintro ⟨F, h, r, k, hf⟩
    refine ⟨fun r p => ∃ k, pts[k]? = some p ∧ F r k, ?_, ⟨?_, ?_⟩, ?_⟩
    · rintro r q ⟨k, e, hf⟩
      obtain ⟨p, e1, e2, e3⟩ := tab0_some (h.le r k hf)
      obtain rfl := Option.some.inj (e.symm.trans e1)
      exact ⟨e2, e3, (hm q).1 (List.mem_of_getElem? e)⟩
    · rintro r p ⟨k, e, hf⟩
      obtain ⟨s, hs, hf2⟩ := h.pt r k hf
      exact ⟨s, hs, k, e, hf2⟩
    · rintro r p ⟨k, e, hf⟩
      obtain ⟨j, hj, hf2⟩ := h.ring r k hf
      obtain ⟨p', e1, -, -⟩ := tab0_some (h.le r j hf2)
      exact ⟨p', fun e2 => hj (nodupR_at hn (by rw [e2] at e1; exact e1) e), j, e1, hf2⟩
    · obtain ⟨p, e1, -, -⟩ := tab0_some (h.le r k hf)
      exact ⟨r, p, k, e1, hf⟩
/-- What the thinning keeps: M is a part of M0, and every part that stands is still in M. -/
structure Thin (M0 M : Nat → Nat → Bool) : Prop where
  le : ∀ r k, M r k = true → M0 r k = true
  all : ∀ F, IC M0 F → IC M F
theorem Thin.refl (M : Nat → Nat → Bool) : Thin M M := ⟨fun _ _ h => h, fun _ h => h⟩
theorem Thin.pt {M0 M : Nat → Nat → Bool} (h : Thin M0 M) {r k : Nat} (hk : ∀ s, s ≠ r → M s k = false) : Thin M0 (strike M r k) := ⟨fun s j hs => h.le s j (strike_le hs), fun F hF => (h.all F hF).strike_pt hk⟩
theorem Thin.ring {M0 M : Nat → Nat → Bool} (h : Thin M0 M) {r k : Nat} (hk : ∀ j, j ≠ k → M r j = false) : Thin M0 (strike M r k) := ⟨fun s j hs => h.le s j (strike_le hs), fun F hF => (h.all F hF).strike_ring hk⟩
/-- At the end: nobody stands alone in M: is anything left? -/
theorem Thin.done {M0 M : Nat → Nat → Bool} (h : Thin M0 M) (hp : ∀ r k, M r k = true → ∃ s, s ≠ r ∧ M s k = true) (hr : ∀ r k, M r k = true → ∃ j, j ≠ k ∧ M r j = true) : (∃ r k, M r k = true) ↔ ∃ F, IC M0 F ∧ ∃ r k, F r k := by
  constructor
  · rintro ⟨r, k, hm⟩
    exact ⟨fun r k => M r k = true, ⟨h.le, hp, hr⟩, r, k, hm⟩
  · rintro ⟨F, hF, r, k, hf⟩
    exact ⟨r, k, (h.all F hF).le r k hf⟩
end Vd
end Go.Proofs.YtcclepohmhdpbaaGreatDoor

/- THE DOCUMENT's WALKS: cut. -/
namespace Go.Proofs.YtcclepohmhdpbaaGreatDoor
set_option linter.all false
open Go.RowKit Go.Deep

/-- each point once. -/
def onceF (acc : List Pnt) (p : Pnt) : List Pnt := if p ∈ acc then acc else acc ++ [p]
def onceL (l : List Pnt) : List Pnt := l.foldl onceF []
theorem onceL_snoc (l : List Pnt) (p : Pnt) : onceL (l ++ [p]) = onceF (onceL l) p := by unfold onceL; rw [List.foldl_append]; rfl
theorem once_facts : ∀ (l acc : List Pnt), acc.Nodup → (l.foldl onceF acc).Nodup ∧ (∀ p, p ∈ l.foldl onceF acc ↔ p ∈ acc ∨ p ∈ l) ∧ (l.foldl onceF acc).length ≤ acc.length + l.length := by
  intro l
  induction l with
  | nil => intro acc h; exact ⟨h, fun p => by simp, by simp⟩
  | cons x l ih =>
    intro acc h
    rw [List.foldl_cons]
    by_cases hx : x ∈ acc
    · rw [show onceF acc x = acc from if_pos hx]
      obtain ⟨h1, h2, h3⟩ := ih acc h
      refine ⟨h1, fun p => ?_, by simp only [List.length_cons]; omega⟩
      rw [h2, List.mem_cons]
      constructor
      · rintro (a | a); exact .inl a; exact .inr (.inr a)
      · rintro (a | rfl | a); exact .inl a; exact .inl hx; exact .inr a
    · rw [show onceF acc x = acc ++ [x] from if_neg hx]
      obtain ⟨h1, h2, h3⟩ := ih (acc ++ [x]) (by
        rw [List.nodup_append]
        refine ⟨h, by simp, ?_⟩
        intro a ha b hb
        rw [List.mem_singleton] at hb
        subst hb
        exact fun e => hx (e ▸ ha))
      refine ⟨h1, fun p => ?_, by simp only [List.length_cons, List.length_append, List.length_nil] at *; omega⟩
      rw [h2, List.mem_append, List.mem_singleton, List.mem_cons]
      constructor
      · rintro ((a | a) | a); exact .inl a; exact .inr (.inl a); exact .inr (.inr a)
      · rintro (a | a | a); exact .inl (.inl a); exact .inl (.inr a); exact .inr a
theorem onceL_nodup (l : List Pnt) : (onceL l).Nodup := (once_facts l [] List.nodup_nil).1
theorem mem_onceL {l : List Pnt} {p : Pnt} : p ∈ onceL l ↔ p ∈ l := by have := (once_facts l [] List.nodup_nil).2.1 p; unfold onceL; rw [this]; simp
theorem onceL_len (l : List Pnt) : (onceL l).length ≤ l.length := by have := (once_facts l [] List.nodup_nil).2.2; unfold onceL; simp at this; omega
/-- the points of a polygon, but for the last of each ring. -/
def heads (l : Poly) : List Pnt := (l.map List.dropLast).flatten
theorem mem_dropLast {r : Ring} (h : Vd.Shut r) (p : Pnt) : p ∈ r.dropLast ↔ p ∈ r := by
  constructor
  · exact fun k => List.dropLast_subset r k
  · intro k
    obtain ⟨i, hi, e⟩ := List.getElem_of_mem k
    have hl := h.len
    by_cases c : i < r.length - 1
    · have : r.dropLast[i]'(by rw [List.length_dropLast]; exact c) = r[i] := List.getElem_dropLast _
      exact List.mem_of_getElem (this.trans e)
    · have e0 : r[0]'(by omega) = p := by
        have h1 := Vd.ptAt_get (r := r) (i := 0) (by omega)
        have h2 := Vd.ptAt_get (r := r) (i := r.length - 1) (by omega)
        have e3 : i = r.length - 1 := by omega
        subst e3
        rw [List.getElem?_eq_getElem (by omega)] at h1 h2
        rw [Option.some.inj h1, h.eq, ← Option.some.inj h2]
        exact e
      have : r.dropLast[0]'(by rw [List.length_dropLast]; omega) = r[0]'(by omega) := List.getElem_dropLast _
      exact List.mem_of_getElem (this.trans e0)
theorem mem_heads {l : Poly} (h : ∀ r ∈ l, Vd.Shut r) (p : Pnt) : p ∈ heads l ↔ p ∈ l.flatten := by
  unfold heads
  simp only [List.mem_flatten, List.mem_map]
  constructor
  · rintro ⟨_, ⟨r, hr, rfl⟩, hp⟩; exact ⟨r, hr, (mem_dropLast (h r hr) p).1 hp⟩
  · rintro ⟨r, hr, hp⟩; exact ⟨_, ⟨r, hr, rfl⟩, (mem_dropLast (h r hr) p).2 hp⟩
theorem heads_take {l : Poly} {k : Nat} {r : Ring} (h : l[k]? = some r) : heads (l.take (k + 1)) = heads (l.take k) ++ r.dropLast := by unfold heads; rw [Pl.take_one h, List.map_append, List.flatten_append]; simp
theorem heads_len (l : Poly) : (heads l).length ≤ l.flatten.length := by
  unfold heads
  induction l with
  | nil => simp
  | cons r l ih => simp only [List.map_cons, List.flatten_cons, List.length_append, List.length_dropLast]; omega
end Go.Proofs.YtcclepohmhdpbaaGreatDoor
