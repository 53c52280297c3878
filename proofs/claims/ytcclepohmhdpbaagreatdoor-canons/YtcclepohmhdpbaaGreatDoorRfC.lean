/- THE DOCUMENT's WALKS: common. -/
import Derived.Test.YtcclepohmhdpbaaGreatDoorRfB
namespace Go.Proofs.YtcclepohmhdpbaaGreatDoor
set_option linter.all false
open Go.RowKit Go.Deep

/-- Rows that a world keeps. -/
def Rw (w : World) (l : List (Nat × TypeId × List Value)) : Prop := ∀ x ∈ l, VRow w x.1 x.2.1 x.2.2
theorem Rw.nil (w : World) : Rw w [] := fun _ h => by simp at h
theorem Rw.up {w w' : World} {l : List (Nat × TypeId × List Value)} (h : Rw w l) (u : Up w w') : Rw w' l := fun x hx => (h x hx).up u
theorem Rw.alloc {w : World} {l : List (Nat × TypeId × List Value)} (h : Rw w l) (o : Obj) : Rw (w.alloc o) l := fun x hx => (h x hx).alloc o
theorem Rw.new {w : World} {l : List (Nat × TypeId × List Value)} (h : Rw w l) {o : Obj} {t : TypeId} {vs : List Value} (e : o = .cells vs.toArray t (0, 0)) : Rw (w.alloc o) ((w.heap.size, t, vs) :: l) := fun x hx => by
  rcases List.mem_cons.1 hx with rfl | hx
  · exact new_row e
  · exact (h x hx).alloc o
theorem Rw.newv {w : World} {l : List (Nat × TypeId × List Value)} (h : Rw w l) (x y : Int) (t : TypeId) : Rw (w.alloc (.cells #[.int .i64 x, .int .i64 y] t)) ((w.heap.size, t, [.int .i64 x, .int .i64 y]) :: l) := h.new rfl
theorem Rw.get {w : World} {l : List (Nat × TypeId × List Value)} (h : Rw w l) (k : Nat) {b : Nat} {t : TypeId} {vs : List Value} (hk : l[k]? = some (b, t, vs)) (i : Nat) {v : Value} (hi : vs[i]? = some v) : w.cell? ⟨b, i, none⟩ = some v := (h _ (Pl.mem_of_some hk)).cell hi

/-- The document's common, of the products. -/
def comF (n s t p q k : Int) : Int × Bool :=
  if n = 0 then
    if t ≠ 0 then (0, false) else (Vd.count k (min p q) (max p q), false)
  else
    let n' := if n < 0 then -n else n
    let s' := if n < 0 then -s else s
    let t' := if n < 0 then -t else t
    if s' < 0 ∨ n' < s' ∨ t' < 0 ∨ n' < t' then (0, false) else (1, decide (0 < s' ∧ s' < n' ∧ 0 < t' ∧ t' < n'))
theorem dt_one (a b c : Pnt) : Vd.pos a b c = dotP (subP a c) (subP a b) := by unfold Vd.pos Vd.dt dotP subP; simp only [Int.mul_one]
theorem common_of (a b c d : Pnt) : Vd.common a b c d = comF (timesP (subP a b) (subP c d)) (timesP (subP a c) (subP c d)) (timesP (subP a c) (subP a b)) (dotP (subP a c) (subP a b)) (dotP (subP a d) (subP a b)) (dotP (subP a b) (subP a b)) := by
  rw [← dt_one, ← dt_one]; rfl
def comT (n s t : Int) : Int × Bool := if s < 0 ∨ n < s ∨ t < 0 ∨ n < t then (0, false) else (1, decide (0 < s ∧ s < n ∧ 0 < t ∧ t < n))
theorem comT_cases (n s t : Int) : (s < 0 ∧ comT n s t = (0, false)) ∨ (n < s ∧ comT n s t = (0, false)) ∨ (¬ s < 0 ∧ ¬ n < s ∧ t < 0 ∧ comT n s t = (0, false)) ∨ (¬ s < 0 ∧ ¬ n < s ∧ ¬ t < 0 ∧ n < t ∧ comT n s t = (0, false)) ∨
    (¬ s < 0 ∧ ¬ n < s ∧ ¬ t < 0 ∧ ¬ n < t ∧ ¬ 0 < s ∧ comT n s t = (1, false)) ∨ (¬ s < 0 ∧ ¬ n < s ∧ ¬ t < 0 ∧ ¬ n < t ∧ 0 < s ∧ ¬ s < n ∧ comT n s t = (1, false)) ∨ (¬ s < 0 ∧ ¬ n < s ∧ ¬ t < 0 ∧ ¬ n < t ∧ 0 < s ∧ s < n ∧ ¬ 0 < t ∧ comT n s t = (1, false)) ∨
    (¬ s < 0 ∧ ¬ n < s ∧ ¬ t < 0 ∧ ¬ n < t ∧ 0 < s ∧ s < n ∧ 0 < t ∧ comT n s t = (1, decide (t < n))) := by
  unfold comT
  by_cases h1 : s < 0
  · exact .inl ⟨h1, if_pos (.inl h1)⟩
  by_cases h2 : n < s
  · exact .inr (.inl ⟨h2, if_pos (.inr (.inl h2))⟩)
  by_cases h3 : t < 0
  · exact .inr (.inr (.inl ⟨h1, h2, h3, if_pos (.inr (.inr (.inl h3)))⟩))
  by_cases h4 : n < t
  · exact .inr (.inr (.inr (.inl ⟨h1, h2, h3, h4, if_pos (.inr (.inr (.inr h4)))⟩)))
  rw [if_neg (by omega)]
  by_cases f1 : 0 < s <;> by_cases f2 : s < n <;> by_cases f3 : 0 < t <;> by_cases f4 : t < n <;> simp [h1, h2, h3, h4, f1, f2, f3, f4]
theorem ret_ib {a b : Int} {c d : Bool} (h : (a, c) = (b, d)) : Ending.returned (.tuple #[.int .i64 a, .bool c]) = .returned (.tuple #[.int .i64 b, .bool d]) := by cases h; rfl
def ibV (x : Int × Bool) : Value := .tuple #[.int .i64 x.1, .bool x.2]
theorem ret_ibV {x y : Int × Bool} (h : x = y) : Ending.returned (.tuple #[.int .i64 x.1, .bool x.2]) = .returned (ibV y) := by rw [h]; rfl
theorem times_bdd {u v : Pnt} (hu : Bdd 65536 u) (hv : Bdd 65536 v) : -8589934592 ≤ timesP u v ∧ timesP u v ≤ 8589934592 := by
  unfold Bdd at hu hv
  have m1 := mul_bd (a := u.1) (b := v.2) (A := 65536) (B := 65536) (by omega) (by omega) (by omega) (by omega)
  have m2 := mul_bd (a := u.2) (b := v.1) (A := 65536) (B := 65536) (by omega) (by omega) (by omega) (by omega)
  unfold timesP
  omega
theorem dot_bdd {u v : Pnt} (hu : Bdd 65536 u) (hv : Bdd 65536 v) : -8589934592 ≤ dotP u v ∧ dotP u v ≤ 8589934592 := by
  unfold Bdd at hu hv
  have m1 := mul_bd (a := u.1) (b := v.1) (A := 65536) (B := 65536) (by omega) (by omega) (by omega) (by omega)
  have m2 := mul_bd (a := u.2) (b := v.2) (A := 65536) (B := 65536) (by omega) (by omega) (by omega) (by omega)
  unfold dotP
  omega

set_option maxRecDepth 8000 in
set_option maxHeartbeats 8000000 in
theorem common_any (a b c d : Pnt) (ha : Vd.Cd a) (hb : Vd.Cd b) (hc : Vd.Cd c) (hd : Vd.Cd d) (w : World) :
    Calls Tryz.prog 165 #[ptV a, ptV b, ptV c, ptV d] w fun e w' => e = .returned (ibV (Vd.common a b c d)) ∧ Up w w' := by
  have HE := hide (common_of a b c d)
  have bU := hide (sub_bdd ha hb)
  have bV := hide (sub_bdd hc hd)
  have bW := hide (sub_bdd ha hc)
  have bX := hide (sub_bdd ha hd)
  have HA := hide (bdd_mono (cd_bdd ha) (B := 4611686018427387903) (by omega))
  have HB := hide (bdd_mono (cd_bdd hb) (B := 4611686018427387903) (by omega))
  have HC := hide (bdd_mono (cd_bdd hc) (B := 4611686018427387903) (by omega))
  have HD := hide (bdd_mono (cd_bdd hd) (B := 4611686018427387903) (by omega))
  clear ha hb hc hd
  obtain ⟨ax, ay⟩ := a
  obtain ⟨bx, bY⟩ := b
  obtain ⟨cx, cy⟩ := c
  obtain ⟨dx, dy⟩ := d
  simp only [ptV]
  have R : Hid (Rw ((((w.alloc (.cells #[.int .i64 ax, .int .i64 ay] 32)).alloc (.cells #[.int .i64 bx, .int .i64 bY] 32)).alloc (.cells #[.int .i64 cx, .int .i64 cy] 32)).alloc (.cells #[.int .i64 dx, .int .i64 dy] 32))
      [(w.heap.size + 3, 32, [.int .i64 dx, .int .i64 dy]), (w.heap.size + 2, 32, [.int .i64 cx, .int .i64 cy]), (w.heap.size + 1, 32, [.int .i64 bx, .int .i64 bY]), (w.heap.size, 32, [.int .i64 ax, .int .i64 ay])]) := by
    have := ((((Rw.nil w).newv ax ay 32).newv bx bY 32).newv cx cy 32).newv dx dy 32
    show Rw _ _
    simpa using this
  have HU : Hid (Up w ((((w.alloc (.cells #[.int .i64 ax, .int .i64 ay] 32)).alloc (.cells #[.int .i64 bx, .int .i64 bY] 32)).alloc (.cells #[.int .i64 cx, .int .i64 cy] 32)).alloc (.cells #[.int .i64 dx, .int .i64 dy] 32))) := (((Up.refl _).alloc _).alloc _ |>.alloc _).alloc _
  go_enter Tryz.func165, Tryz.ntmps165
  go_wp2_with fail
  refine (way2_any (ax, ay) (bx, bY) HA.out HB.out _).mono ?_
  rintro e w1 ⟨rfl, hz⟩
  replace HU := hide (HU.out.trans hz)
  replace R := hide (R.out.up hz)
  generalize subP (ax, ay) (bx, bY) = U at *
  obtain ⟨ux, uy⟩ := U
  clear hz HB
  simp only [ptV]
  have q0 := fun o => (R.out.alloc o).get 0 rfl 0 rfl
  have q1 := fun o => (R.out.alloc o).get 0 rfl 1 rfl
  have q2 := fun o => (R.out.alloc o).get 1 rfl 0 rfl
  have q3 := fun o => (R.out.alloc o).get 1 rfl 1 rfl
  go_wp2_with fail
  refine (way2_any (cx, cy) (dx, dy) HC.out HD.out _).mono ?_
  rintro e w2 ⟨rfl, hz⟩
  replace HU := hide ((HU.out.alloc _).trans hz)
  replace R := hide ((R.out.newv ux uy 155).up hz)
  generalize subP (cx, cy) (dx, dy) = V at *
  obtain ⟨vx, vy⟩ := V
  clear hz q0 q1 q2 q3
  simp only [ptV]
  have q0 := fun o => (R.out.alloc o).get 4 rfl 0 rfl
  have q1 := fun o => (R.out.alloc o).get 4 rfl 1 rfl
  have q2 := fun o => (R.out.alloc o).get 2 rfl 0 rfl
  have q3 := fun o => (R.out.alloc o).get 2 rfl 1 rfl
  go_wp2_with fail
  refine (way2_any (ax, ay) (cx, cy) HA.out HC.out _).mono ?_
  rintro e w3 ⟨rfl, hz⟩
  replace HU := hide ((HU.out.alloc _).trans hz)
  replace R := hide ((R.out.newv vx vy 155).up hz)
  generalize subP (ax, ay) (cx, cy) = W at *
  obtain ⟨wx, wy⟩ := W
  clear hz q0 q1 q2 q3 HC
  simp only [ptV]
  have q0 := fun o => (R.out.alloc o).get 1 rfl 0 rfl
  have q1 := fun o => (R.out.alloc o).get 1 rfl 1 rfl
  have q2 := fun o => (R.out.alloc o).get 0 rfl 0 rfl
  have q3 := fun o => (R.out.alloc o).get 0 rfl 1 rfl
  go_wp2_with fail
  refine (times_any (ux, uy) (vx, vy) bU.out bV.out (by omega) (by omega) (by omega) _).mono ?_
  rintro e w4 ⟨rfl, hz⟩
  replace HU := hide ((HU.out.alloc _).trans hz)
  replace R := hide ((R.out.newv wx wy 155).up hz)
  clear hz q0 q1 q2 q3
  have bn := times_bdd bU.out bV.out
  have bs := times_bdd bW.out bV.out
  have bt := times_bdd bW.out bU.out
  have bk := dot_bdd bU.out bU.out
  have bp := dot_bdd bW.out bU.out
  have bq := dot_bdd bX.out bU.out
  generalize hn : timesP (ux, uy) (vx, vy) = n at *
  by_cases h0 : n = 0
  · subst h0
    have q0 := R.out.get 0 rfl 0 rfl
    have q1 := R.out.get 0 rfl 1 rfl
    have q2 := R.out.get 2 rfl 0 rfl
    have q3 := R.out.get 2 rfl 1 rfl
    clear bn bs hn
    go_wp2_with fail
    refine (times_any (wx, wy) (ux, uy) bW.out bU.out (by omega) (by omega) (by omega) _).mono ?_
    rintro e w5 ⟨rfl, hz⟩
    replace HU := hide (HU.out.trans hz)
    replace R := hide (R.out.up hz)
    clear hz q0 q1 q2 q3
    generalize hT : timesP (wx, wy) (ux, uy) = T at *
    by_cases h1 : T = 0
    · subst h1
      have q0 := R.out.get 6 rfl 0 rfl
      have q1 := R.out.get 6 rfl 1 rfl
      have q2 := R.out.get 3 rfl 0 rfl
      have q3 := R.out.get 3 rfl 1 rfl
      clear hT
      go_wp2_with fail
      refine (way2_any (ax, ay) (dx, dy) HA.out HD.out _).mono ?_
      rintro e w6 ⟨rfl, hz⟩
      replace HU := hide (HU.out.trans hz)
      replace R := hide (R.out.up hz)
      generalize subP (ax, ay) (dx, dy) = X at *
      obtain ⟨xx, xy⟩ := X
      clear hz q0 q1 q2 q3
      simp only [ptV]
      have q0 := fun o => (R.out.alloc o).get 0 rfl 0 rfl
      have q1 := fun o => (R.out.alloc o).get 0 rfl 1 rfl
      have q2 := fun o => (R.out.alloc o).get 2 rfl 0 rfl
      have q3 := fun o => (R.out.alloc o).get 2 rfl 1 rfl
      go_wp2_with fail
      refine (dot_any (wx, wy) (ux, uy) bW.out bU.out (by omega) (by omega) (by omega) _).mono ?_
      rintro e w7 ⟨rfl, hz⟩
      replace HU := hide ((HU.out.alloc _).trans hz)
      replace R := hide ((R.out.newv xx xy 155).up hz)
      clear hz q0 q1 q2 q3
      have q0 := R.out.get 0 rfl 0 rfl
      have q1 := R.out.get 0 rfl 1 rfl
      have q2 := R.out.get 3 rfl 0 rfl
      have q3 := R.out.get 3 rfl 1 rfl
      go_wp2_with fail
      refine (dot_any (xx, xy) (ux, uy) bX.out bU.out (by omega) (by omega) (by omega) _).mono ?_
      rintro e w8 ⟨rfl, hz⟩
      replace HU := hide (HU.out.trans hz)
      replace R := hide (R.out.up hz)
      clear hz q0 q1 q2 q3
      have q2 := R.out.get 3 rfl 0 rfl
      have q3 := R.out.get 3 rfl 1 rfl
      generalize dotP (wx, wy) (ux, uy) = P at *
      generalize dotP (xx, xy) (ux, uy) = Q at *
      have HK : Hid (∀ K : Int, comF 0 0 0 P Q K = (Vd.count K (min P Q) (max P Q), false)) := fun K => rfl
      by_cases hpq : P > Q
      all_goals
        go_wp2_with fail
        refine (dot_any (ux, uy) (ux, uy) bU.out bU.out (by omega) (by omega) (by omega) _).mono ?_
        rintro e w9 ⟨rfl, hz⟩
        replace HU := hide (HU.out.trans hz)
        clear hz q2 q3 R
        generalize dotP (ux, uy) (ux, uy) = K at *
        have HF : Hid (Vd.common (ax, ay) (bx, bY) (cx, cy) (dx, dy) = (Vd.count K (min P Q) (max P Q), false)) := HE.out
        first
        | rw [Int.min_eq_right (by omega), Int.max_eq_left (by omega)] at HF
        | rw [Int.min_eq_left (by omega), Int.max_eq_right (by omega)] at HF
        simp only [Vd.count] at HF
      · by_cases e1 : P < 0
        · rw [if_pos (Or.inl e1)] at HF
          go_wp2
          go_ret2
          exact ⟨ret_ibV HF.out.symm, HU.out⟩
        · by_cases e2 : K < Q
          · rw [if_pos (Or.inr e2)] at HF
            go_wp2
            go_ret2
            exact ⟨ret_ibV HF.out.symm, HU.out⟩
          · rw [if_neg (by omega)] at HF
            by_cases e3 : P = 0
            · rw [if_pos (Or.inl e3)] at HF
              subst e3
              go_wp2
              go_ret2
              exact ⟨ret_ibV HF.out.symm, HU.out⟩
            · have e3' := beq_eq_false_iff_ne.2 e3
              by_cases e4 : Q = K
              · rw [if_pos (Or.inr e4)] at HF
                subst e4
                go_wp2
                go_ret2
                exact ⟨ret_ibV HF.out.symm, HU.out⟩
              · have e4' := beq_eq_false_iff_ne.2 e4
                rw [if_neg (by omega)] at HF
                go_wp2
                go_ret2
                exact ⟨ret_ibV HF.out.symm, HU.out⟩
      · by_cases e1 : Q < 0
        · rw [if_pos (Or.inl e1)] at HF
          go_wp2
          go_ret2
          exact ⟨ret_ibV HF.out.symm, HU.out⟩
        · by_cases e2 : K < P
          · rw [if_pos (Or.inr e2)] at HF
            go_wp2
            go_ret2
            exact ⟨ret_ibV HF.out.symm, HU.out⟩
          · rw [if_neg (by omega)] at HF
            by_cases e3 : Q = 0
            · rw [if_pos (Or.inl e3)] at HF
              subst e3
              go_wp2
              go_ret2
              exact ⟨ret_ibV HF.out.symm, HU.out⟩
            · have e3' := beq_eq_false_iff_ne.2 e3
              by_cases e4 : P = K
              · rw [if_pos (Or.inr e4)] at HF
                subst e4
                go_wp2
                go_ret2
                exact ⟨ret_ibV HF.out.symm, HU.out⟩
              · have e4' := beq_eq_false_iff_ne.2 e4
                rw [if_neg (by omega)] at HF
                go_wp2
                go_ret2
                exact ⟨ret_ibV HF.out.symm, HU.out⟩
    · have HF : Hid (Vd.common (ax, ay) (bx, bY) (cx, cy) (dx, dy) = (0, false)) := by
        show _ = _
        rw [HE.out]; unfold comF; rw [if_pos rfl, if_pos h1]
      have h1' := bne_iff_ne.2 h1
      clear R
      go_wp2
      go_ret2
      exact ⟨ret_ibV HF.out.symm, HU.out⟩
  · have h0' := beq_eq_false_iff_ne.2 h0
    have q0 := R.out.get 0 rfl 0 rfl
    have q1 := R.out.get 0 rfl 1 rfl
    have q2 := R.out.get 1 rfl 0 rfl
    have q3 := R.out.get 1 rfl 1 rfl
    clear bk bp bq hn
    go_wp2_with fail
    refine (times_any (wx, wy) (vx, vy) bW.out bV.out (by omega) (by omega) (by omega) _).mono ?_
    rintro e w5 ⟨rfl, hz⟩
    replace HU := hide (HU.out.trans hz)
    replace R := hide (R.out.up hz)
    clear hz q0 q1 q2 q3
    have q0 := R.out.get 0 rfl 0 rfl
    have q1 := R.out.get 0 rfl 1 rfl
    have q2 := R.out.get 2 rfl 0 rfl
    have q3 := R.out.get 2 rfl 1 rfl
    go_wp2_with fail
    refine (times_any (wx, wy) (ux, uy) bW.out bU.out (by omega) (by omega) (by omega) _).mono ?_
    rintro e w6 ⟨rfl, hz⟩
    replace HU := hide (HU.out.trans hz)
    clear hz q0 q1 q2 q3 R
    generalize timesP (wx, wy) (vx, vy) = S at *
    generalize timesP (wx, wy) (ux, uy) = T at *
    have HF : Hid (Vd.common (ax, ay) (bx, bY) (cx, cy) (dx, dy) = comT (if n < 0 then -n else n) (if n < 0 then -S else S) (if n < 0 then -T else T)) := by
      show _ = _
      rw [HE.out]; unfold comF; rw [if_neg h0]; rfl
    by_cases hneg : n < 0
    · obtain ⟨n', rfl⟩ : ∃ n', n = -n' := ⟨-n, by omega⟩
      obtain ⟨S', rfl⟩ : ∃ n', S = -n' := ⟨-S, by omega⟩
      obtain ⟨T', rfl⟩ : ∃ n', T = -n' := ⟨-T, by omega⟩
      simp only [if_pos hneg, Int.neg_neg] at HF
      have hp : 0 < n' := by omega
      rcases comT_cases n' S' T' with ⟨e, h⟩ | ⟨e, h⟩ | ⟨e1, e2, e, h⟩ | ⟨e1, e2, e3, e, h⟩ | ⟨e1, e2, e3, e4, f1, h⟩ | ⟨e1, e2, e3, e4, f1, f2, h⟩ | ⟨e1, e2, e3, e4, f1, f2, f3, h⟩ | ⟨e1, e2, e3, e4, f1, f2, f3, h⟩
      all_goals (have HG := hide (HF.out.trans h); clear HF)
      all_goals
        clear h h0'
        go_wp2
        go_ret2
        exact ⟨ret_ibV HG.out.symm, HU.out⟩
    · simp only [if_neg hneg] at HF
      rcases comT_cases n S T with ⟨e, h⟩ | ⟨e, h⟩ | ⟨e1, e2, e, h⟩ | ⟨e1, e2, e3, e, h⟩ | ⟨e1, e2, e3, e4, f1, h⟩ | ⟨e1, e2, e3, e4, f1, f2, h⟩ | ⟨e1, e2, e3, e4, f1, f2, f3, h⟩ | ⟨e1, e2, e3, e4, f1, f2, f3, h⟩
      all_goals (have HG := hide (HF.out.trans h); clear HF)
      all_goals
        clear h h0'
        go_wp2
        go_ret2
        exact ⟨ret_ibV HG.out.symm, HU.out⟩
end Go.Proofs.YtcclepohmhdpbaaGreatDoor
