import Derived.Test.YtcclepohmhdpbabGreatDoorTwB
namespace Go.Proofs.YtcclepohmhdpbabGreatDoor
set_option linter.all false
open Go.RowKit Go.Deep
namespace Js
def fst (l : List UInt8) : Int := match l with
  | [] => 0
  | c :: _ => c.toNat
theorem fst_at (l : List UInt8) : fst l = Tx.at_ l 0 ∨ (fst l = 0 ∧ l = [] ∧ Tx.at_ l 0 = -1) := by
  cases l with
  | nil => exact .inr ⟨rfl, rfl, rfl⟩
  | cons c t => exact .inl rfl
theorem fst_nn (l : List UInt8) : 0 ≤ fst l ∧ fst l ≤ 255 := by
  cases l with
  | nil => simp [fst]
  | cons c t => have := c.toNat_lt; simp only [fst]; omega
theorem fst_eq {l : List UInt8} {x : Int} (hx : x ≠ 0) (hx1 : x ≠ -1) : fst l = x ↔ Tx.at_ l 0 = x := by
  rcases fst_at l with h | ⟨h, -, h2⟩
  · rw [h]
  · rw [h, h2]
    constructor
    · intro e; exact absurd e.symm hx
    · intro e; exact absurd e.symm hx1
theorem hexd_fst (l : List UInt8) : hexd (fst l) = hexd (Tx.at_ l 0) := by
  rcases fst_at l with h | ⟨h, -, h2⟩
  · rw [h]
  · rw [h, h2]; rfl
theorem mean_fst (l : List UInt8) : mean (fst l) = mean (Tx.at_ l 0) := by
  rcases fst_at l with h | ⟨h, -, h2⟩
  · rw [h]
  · rw [h, h2]; rfl
theorem hexd_le {x v : Int} (h : hexd x = some v) : 0 ≤ v ∧ v ≤ 15 := by
  unfold hexd at h
  split at h
  · have := Option.some.inj h; omega
  · split at h
    · have := Option.some.inj h; omega
    · split at h
      · have := Option.some.inj h; omega
      · cases h
theorem mean_le {x v : Int} (h : mean x = some v) : 0 ≤ v ∧ v ≤ 92 ∧ (x ≠ -1) := by
  unfold mean at h
  split at h
  · have := Option.some.inj h; omega
  · split at h
    · have := Option.some.inj h; omega
    · split at h
      · have := Option.some.inj h; omega
      · split at h
        · have := Option.some.inj h; omega
        · split at h
          · have := Option.some.inj h; omega
          · split at h
            · have := Option.some.inj h; omega
            · cases h
theorem num_false (l : List UInt8) : Tx.num false l = if Tx.at_ l 0 = 43 then 0 else if Tx.at_ l (Tx.sgn false l 0) = 48 ∧ Tx.digit (Tx.at_ l (Tx.sgn false l 0 + 1)) = true then 0 else Tx.num true l := by
  have hsg : Tx.at_ l 0 ≠ 43 → Tx.sgn true l 0 = Tx.sgn false l 0 := by intro h; simp [Tx.sgn, h]
  by_cases h1 : Tx.at_ l 0 = 43
  · rw [if_pos h1]
    by_cases h0 : Tx.num false l = 0
    · exact h0
    · have := num_first h0; omega
  · rw [if_neg h1]
    unfold Tx.num
    rw [hsg h1]
    generalize Tx.sgn false l 0 = n
    unfold Tx.num1
    by_cases h2 : Tx.at_ l n = 48 ∧ Tx.digit (Tx.at_ l (n + 1)) = true
    · rw [if_pos h2]
      obtain ⟨ha, hb⟩ := h2
      have hn : n < l.length := Tx.lt_of_at (by omega)
      have hn1 : n + 1 < l.length := Tx.lt_of_at (by intro e; rw [e] at hb; simp [Tx.digit] at hb)
      have hd0 : Tx.digit (l[n].toNat : Int) = true := by rw [← Tx.at_lt hn, ha]; rfl
      have hd1 : Tx.digit (l[n + 1].toNat : Int) = true := by rw [← Tx.at_lt hn1]; exact hb
      have : 1 < Tx.lead (l.drop n) := by
        rw [Tx.drop_cons hn, Tx.lead_cons, if_pos hd0, Tx.drop_cons hn1, Tx.lead_cons, if_pos hd1]
        omega
      rw [if_neg (by omega), if_pos ⟨rfl, this, ha⟩]
    · rw [if_neg h2]
      have : ¬ (1 < Tx.lead (l.drop n) ∧ Tx.at_ l n = 48) := by
        rintro ⟨h3, h4⟩
        refine h2 ⟨h4, ?_⟩
        have hn : n < l.length := Tx.lt_of_at (by omega)
        rw [Tx.drop_cons hn, Tx.lead_cons] at h3
        split at h3
        · cases hr : l.drop (n + 1) with
          | nil => rw [hr] at h3; simp [Tx.lead] at h3
          | cons c t =>
            have hc : Tx.at_ l (n + 1) = c.toNat := by
              have := Tx.at_drop l (n + 1) 0
              rw [hr] at this
              simpa [Tx.at_zero] using this.symm
            rw [hr, Tx.lead_cons] at h3
            rw [hc]
            cases hd : Tx.digit (c.toNat : Int)
            · rw [hd] at h3; simp at h3
            · rfl
        · omega
      by_cases h5 : Tx.lead (l.drop n) = 0
      · rw [if_pos h5, if_pos h5]
      · rw [if_neg h5, if_neg h5, if_neg (fun h => this h.2), if_neg (by simp)]
theorem lead_of {l : List UInt8} {n : Nat} (ha : Tx.at_ l n = 48) (hb : Tx.digit (Tx.at_ l (n + 1)) = true) : 1 < Tx.lead (l.drop n) := by
  have hn : n < l.length := Tx.lt_of_at (by omega)
  have hn1 : n + 1 < l.length := Tx.lt_of_at (by intro e; rw [e] at hb; simp [Tx.digit] at hb)
  have hd0 : Tx.digit (l[n].toNat : Int) = true := by rw [← Tx.at_lt hn, ha]; rfl
  have hd1 : Tx.digit (l[n + 1].toNat : Int) = true := by rw [← Tx.at_lt hn1]; exact hb
  rw [Tx.drop_cons hn, Tx.lead_cons, if_pos hd0, Tx.drop_cons hn1, Tx.lead_cons, if_pos hd1]
  omega
theorem num3_ge (l : List UInt8) (n : Nat) : Tx.num3 l n = 0 ∨ n ≤ Tx.num3 l n := by
  unfold Tx.num3
  split
  · split
    · exact .inl rfl
    · exact .inr (by omega)
  · exact .inr (Nat.le_refl _)
theorem num2_ge (l : List UInt8) (n : Nat) : Tx.num2 l n = 0 ∨ n ≤ Tx.num2 l n := by
  unfold Tx.num2
  split
  · split
    · exact .inl rfl
    · rcases num3_ge l (n + 1 + Tx.lead (l.drop (n + 1))) with h | h
      · exact .inl h
      · exact .inr (by omega)
  · exact num3_ge l n
theorem num_ge {p : Bool} {l : List UInt8} (h : Tx.num p l ≠ 0) : Tx.sgn p l 0 + Tx.lead (l.drop (Tx.sgn p l 0)) ≤ Tx.num p l ∧ 1 ≤ Tx.lead (l.drop (Tx.sgn p l 0)) := by
  unfold Tx.num at h ⊢
  generalize Tx.sgn p l 0 = n at h ⊢
  unfold Tx.num1 at h ⊢
  split
  · rename_i h1; rw [if_pos h1] at h; simp at h
  · rename_i h1
    rw [if_neg h1] at h
    split
    · rename_i h2; rw [if_pos h2] at h; simp at h
    · rename_i h2
      rw [if_neg h2] at h
      rcases num2_ge l (n + Tx.lead (l.drop n)) with h3 | h3
      · exact absurd h3 h
      · exact ⟨h3, by omega⟩
end Js
set_option maxHeartbeats 1000000 in
theorem first_any (l : List UInt8) (w : World) (hl : l.length ≤ 6000) :
    Calls Tryz.prog 119 #[.string (bs l)] w fun e w' => e = .returned (.int .u8 (Js.fst l)) ∧ w' = w := by
  obtain ⟨e0, e1, e2, e3, e4, e5⟩ := bs_tells l
  clear e2 e3 e4 e5
  cases l with
  | nil =>
    go_enter Tryz.func119, Tryz.ntmps119
    go_wp2
    go_ret
    exact ⟨rfl, rfl⟩
  | cons c t =>
    have e6 := Tx.at_zero c t
    have e7 : ¬ ((c :: t).length : Int) = 0 := by simp only [List.length_cons]; omega
    have e8 : 0 < (c :: t).length := by simp
    go_enter Tryz.func119, Tryz.ntmps119
    go_wp2
    go_ret
    exact ⟨by simp [Js.fst, e6], rfl⟩
set_option maxHeartbeats 1000000 in
theorem digitOf_any (x : Int) (h0 : 0 ≤ x) (h1 : x ≤ 255) (w : World) :
    Calls Tryz.prog 162 #[.int .u8 x] w fun e w' => e = .returned (.int .i64 ((Js.hexd x).getD (-1))) ∧ w' = w := by
  unfold Js.hexd
  by_cases a1 : 48 ≤ x ∧ x ≤ 57
  · rw [if_pos a1]
    obtain ⟨b1, b2⟩ := a1
    go_enter Tryz.func162, Tryz.ntmps162
    go_wp2
    go_ret
    exact ⟨by go_num, rfl⟩
  · rw [if_neg a1]
    by_cases a2 : 97 ≤ x ∧ x ≤ 102
    · rw [if_pos a2]
      obtain ⟨b1, b2⟩ := a2
      have b3 : ¬ x ≤ 57 := by omega
      go_enter Tryz.func162, Tryz.ntmps162
      go_wp2
      all_goals
        go_ret
        exact ⟨by go_num, rfl⟩
    · rw [if_neg a2]
      by_cases a3 : 65 ≤ x ∧ x ≤ 70
      · rw [if_pos a3]
        obtain ⟨b1, b2⟩ := a3
        have b3 : ¬ x ≤ 57 := by omega
        have b4 : ¬ 97 ≤ x := by omega
        go_enter Tryz.func162, Tryz.ntmps162
        go_wp2
        all_goals
          go_ret
          exact ⟨by go_num, rfl⟩
      · rw [if_neg a3]
        go_enter Tryz.func162, Tryz.ntmps162
        go_wp2
        all_goals first
          | (exfalso; omega)
          | (go_ret; exact ⟨rfl, rfl⟩)
set_option maxHeartbeats 2000000 in
theorem meaning_any (x : Int) (w : World) :
    Calls Tryz.prog 159 #[.int .u8 x] w fun e w' => e = .returned (.int .i64 ((Js.mean x).getD (-1))) ∧ w' = w := by
  unfold Js.mean
  by_cases a1 : x = 34
  · subst a1
    go_enter Tryz.func159, Tryz.ntmps159
    go_wp2
    go_ret
    exact ⟨rfl, rfl⟩
  by_cases a2 : x = 92
  · subst a2
    go_enter Tryz.func159, Tryz.ntmps159
    go_wp2
    go_ret
    exact ⟨rfl, rfl⟩
  by_cases a3 : x = 47
  · subst a3
    go_enter Tryz.func159, Tryz.ntmps159
    go_wp2
    go_ret
    exact ⟨rfl, rfl⟩
  rw [if_neg (by omega)]
  by_cases a4 : x = 98
  · subst a4
    go_enter Tryz.func159, Tryz.ntmps159
    go_wp2
    go_ret
    exact ⟨rfl, rfl⟩
  by_cases a5 : x = 102
  · subst a5
    go_enter Tryz.func159, Tryz.ntmps159
    go_wp2
    go_ret
    exact ⟨rfl, rfl⟩
  by_cases a6 : x = 110
  · subst a6
    go_enter Tryz.func159, Tryz.ntmps159
    go_wp2
    go_ret
    exact ⟨rfl, rfl⟩
  by_cases a7 : x = 114
  · subst a7
    go_enter Tryz.func159, Tryz.ntmps159
    go_wp2
    go_ret
    exact ⟨rfl, rfl⟩
  by_cases a8 : x = 116
  · subst a8
    go_enter Tryz.func159, Tryz.ntmps159
    go_wp2
    go_ret
    exact ⟨rfl, rfl⟩
  rw [if_neg a4, if_neg a5, if_neg a6, if_neg a7, if_neg a8]
  have c1 := beq_eq_false_iff_ne.2 a1
  have c2 := beq_eq_false_iff_ne.2 a2
  have c3 := beq_eq_false_iff_ne.2 a3
  have c4 := beq_eq_false_iff_ne.2 a4
  have c5 := beq_eq_false_iff_ne.2 a5
  have c6 := beq_eq_false_iff_ne.2 a6
  have c7 := beq_eq_false_iff_ne.2 a7
  have c8 := beq_eq_false_iff_ne.2 a8
  go_enter Tryz.func159, Tryz.ntmps159
  go_wp2
  go_ret
  exact ⟨rfl, rfl⟩
set_option maxRecDepth 100000 in
set_option maxHeartbeats 4000000 in
theorem numberLength_any (l : List UInt8) (w : World) (hl : l.length ≤ 6000) :
    Calls Tryz.prog 122 #[.string (bs l)] w fun e w' => e = .returned (.int .i64 (Tx.num false l : Nat)) ∧ w' = w := by
  obtain ⟨n, hn⟩ : ∃ n, n = Tx.num true l := ⟨_, rfl⟩
  have hnl : n ≤ l.length := by rw [hn]; exact Tx.num_le true l
  have HN := hide hn
  have HNF := hide (Js.num_false l)
  obtain ⟨q, hq⟩ : ∃ q, q = l.take n := ⟨_, rfl⟩
  have hql : q.length = n := by rw [hq, List.length_take]; omega
  have hqa : ∀ i, i < n → Tx.at_ q i = Tx.at_ l i := by
    intro i hi
    rw [hq]
    simp [Tx.at_, List.getElem?_take, hi]
  have e3 : ∀ b : Nat, b = n → (bs l).extract 0 b = bs q := fun b hb => by rw [hb, hq]; exact bs_take l n
  have HFQ := hide (fun w => first_any q w (by omega))
  clear hn
  obtain ⟨m, hm⟩ : ∃ m, m = Tx.sgn false l 0 := ⟨_, rfl⟩
  obtain ⟨u, hu⟩ : ∃ u, u = q.drop m := ⟨_, rfl⟩
  have hul : u.length = n - m := by rw [hu, List.length_drop, hql]
  have hua : ∀ i, m + i < n → Tx.at_ u i = Tx.at_ l (m + i) := by
    intro i hi
    rw [hu, Tx.at_drop, hqa _ hi]
  have HR : Hid (Tx.num false l = if 1 < u.length ∧ Tx.at_ u 0 = 48 ∧ 48 ≤ Tx.at_ u 1 ∧ Tx.at_ u 1 ≤ 57 ∧ Tx.at_ l 0 ≠ 43 then 0 else if Tx.at_ l 0 = 43 then 0 else n) := by
    have h := HNF.out
    rw [← hm, ← HN.out] at h
    show _ = _
    rw [h]
    by_cases h1 : Tx.at_ l 0 = 43
    · simp [h1]
    · rw [if_neg h1, if_neg h1]
      by_cases h2 : Tx.at_ l m = 48 ∧ Tx.digit (Tx.at_ l (m + 1)) = true
      · rw [if_pos h2]
        split
        · rfl
        · rename_i h3
          by_cases hn0 : n = 0
          · rw [hn0]
          · exfalso
            have hs : Tx.sgn true l 0 = m := by rw [hm]; simp [Tx.sgn, h1]
            have h4 := Js.num_ge (p := true) (l := l) (by rw [← HN.out]; exact hn0)
            rw [hs, ← HN.out] at h4
            have h5 := Js.lead_of h2.1 h2.2
            have a0 := hua 0 (by omega)
            have a1 := hua 1 (by omega)
            have h6 : 48 ≤ Tx.at_ l (m + 1) ∧ Tx.at_ l (m + 1) ≤ 57 := by simpa [Tx.digit] using h2.2
            rw [Nat.add_zero] at a0
            exact h3 ⟨by omega, by rw [a0]; exact h2.1, by rw [a1]; exact h6.1, by rw [a1]; exact h6.2, h1⟩
      · rw [if_neg h2]
        split
        · rename_i h3
          exfalso
          obtain ⟨b1, b2, b3, b4, -⟩ := h3
          have a0 := hua 0 (by omega)
          have a1 := hua 1 (by omega)
          rw [Nat.add_zero] at a0
          rw [a0] at b2
          rw [a1] at b3 b4
          exact h2 ⟨b2, by simp [Tx.digit, b3, b4]⟩
        · rfl
  obtain ⟨R, hR⟩ : ∃ R, R = Tx.num false l := ⟨_, rfl⟩
  rw [← hR] at HR ⊢
  have HL := hide (Length_any l w (by omega))
  rw [← HN.out] at HL
  have hsz0 := bs_size l
  have hsq := bs_size q
  obtain ⟨f, hf⟩ : ∃ f, f = Js.fst q := ⟨_, rfl⟩
  rw [← hf] at HFQ
  have hfq : n ≠ 0 → f = Tx.at_ l 0 := by
    intro h
    rw [hf]
    rcases Js.fst_at q with h1 | ⟨-, h1, -⟩
    · rw [h1, hqa 0 (by omega)]
    · rw [h1] at hql; simp at hql; omega
  have hf0 : n = 0 → f = 0 := by
    intro h
    have : q = [] := List.length_eq_zero_iff.1 (by omega)
    rw [hf, this]; rfl
  have hx := e3 n rfl
  obtain ⟨u0, u1, -, -, -, -⟩ := bs_tells u
  have q2 : (bs q).extract 1 n = bs (q.drop 1) := by rw [← hql]; exact (bs_tells q).drop 1
  clear hqa e3 HNF hR hua
  by_cases c43 : f = 43
  · subst c43
    have hn0 : n ≠ 0 := fun h => by have := hf0 h; omega
    have ha := hfq hn0
    obtain rfl : R = 0 := by rw [HR.out]; simp [← ha]
    clear hfq hf0 HR u0 u1 q2 hm hu hul hq
    go_enter Tryz.func122, Tryz.ntmps122
    go_wp2_with fail
    refine HL.out.mono ?_
    rintro e w1 ⟨rfl, hw⟩
    replace hw := hw.symm
    subst hw
    go_wp2_with fail
    refine (HFQ.out _).mono ?_
    rintro e w1 ⟨rfl, hw⟩
    replace hw := hw.symm
    subst hw
    go_wp2
    go_ret
    exact ⟨rfl, rfl⟩
  have hcs : (¬ 1 < u.length ∧ R = n) ∨ (1 < u.length ∧ Tx.at_ u 0 ≠ 48 ∧ R = n) ∨ (1 < u.length ∧ Tx.at_ u 0 = 48 ∧ ¬ 48 ≤ Tx.at_ u 1 ∧ R = n) ∨ (1 < u.length ∧ Tx.at_ u 0 = 48 ∧ 48 ≤ Tx.at_ u 1 ∧ ¬ Tx.at_ u 1 ≤ 57 ∧ R = n) ∨ (1 < u.length ∧ Tx.at_ u 0 = 48 ∧ 48 ≤ Tx.at_ u 1 ∧ Tx.at_ u 1 ≤ 57 ∧ R = 0) := by
    have h := HR.out
    by_cases hn0 : n = 0
    · refine .inl ⟨by omega, ?_⟩
      rw [h, hn0]
      split
      · rfl
      · split <;> rfl
    have ha43 : Tx.at_ l 0 ≠ 43 := fun e => c43 ((hfq hn0).trans e)
    by_cases h1 : 1 < u.length
    · by_cases h2 : Tx.at_ u 0 = 48
      · by_cases h3 : 48 ≤ Tx.at_ u 1
        · by_cases h4 : Tx.at_ u 1 ≤ 57
          · rw [if_pos ⟨h1, h2, h3, h4, ha43⟩] at h
            exact .inr (.inr (.inr (.inr ⟨h1, h2, h3, h4, h⟩)))
          · rw [if_neg (fun e => h4 e.2.2.2.1), if_neg ha43] at h
            exact .inr (.inr (.inr (.inl ⟨h1, h2, h3, h4, h⟩)))
        · rw [if_neg (fun e => h3 e.2.2.1), if_neg ha43] at h
          exact .inr (.inr (.inl ⟨h1, h2, h3, h⟩))
      · rw [if_neg (fun e => h2 e.2.1), if_neg ha43] at h
        exact .inr (.inl ⟨h1, h2, h⟩)
    · rw [if_neg (fun e => h1 e.1), if_neg ha43] at h
      exact .inl ⟨h1, h⟩
  have b43 := beq_eq_false_iff_ne.2 c43
  by_cases c45 : f = 45
  · have hn0 : n ≠ 0 := fun h => by have := hf0 h; omega
    have ha := hfq hn0
    obtain rfl : m = 1 := by rw [hm]; simp [Tx.sgn, ← ha, c45]
    rw [← hu] at q2
    have hn1 : (1 : Int) ≤ (n : Int) := by omega
    clear hfq hf0 HR hm hu ha hq
    subst c45
    have hn2 : 1 ≤ n := by omega
    rcases hcs with ⟨h1, rfl⟩ | ⟨h1, h2, rfl⟩ | ⟨h1, h2, h3, rfl⟩ | ⟨h1, h2, h3, h4, rfl⟩ | ⟨h1, h2, h3, h4, rfl⟩
    · have g1 : ¬ (1 : Int) < (u.length : Int) := by omega
      go_enter Tryz.func122, Tryz.ntmps122
      go_wp2_with fail
      refine HL.out.mono ?_
      rintro e w1 ⟨rfl, hw⟩
      replace hw := hw.symm
      subst hw
      go_wp2_with fail
      refine (HFQ.out _).mono ?_
      rintro e w1 ⟨rfl, hw⟩
      replace hw := hw.symm
      subst hw
      go_wp2_with fail
      refine (HFQ.out _).mono ?_
      rintro e w1 ⟨rfl, hw⟩
      replace hw := hw.symm
      subst hw
      go_wp2
      go_ret
      exact ⟨rfl, rfl⟩
    · have g1 : (1 : Int) < (u.length : Int) := by omega
      have g0 : 0 < u.length := by omega
      have g2 := beq_eq_false_iff_ne.2 h2
      go_enter Tryz.func122, Tryz.ntmps122
      go_wp2_with fail
      refine HL.out.mono ?_
      rintro e w1 ⟨rfl, hw⟩
      replace hw := hw.symm
      subst hw
      go_wp2_with fail
      refine (HFQ.out _).mono ?_
      rintro e w1 ⟨rfl, hw⟩
      replace hw := hw.symm
      subst hw
      go_wp2_with fail
      refine (HFQ.out _).mono ?_
      rintro e w1 ⟨rfl, hw⟩
      replace hw := hw.symm
      subst hw
      go_wp2
      go_ret
      exact ⟨rfl, rfl⟩
    · have g1 : (1 : Int) < (u.length : Int) := by omega
      have g0 : 0 < u.length := by omega
      go_enter Tryz.func122, Tryz.ntmps122
      go_wp2_with fail
      refine HL.out.mono ?_
      rintro e w1 ⟨rfl, hw⟩
      replace hw := hw.symm
      subst hw
      go_wp2_with fail
      refine (HFQ.out _).mono ?_
      rintro e w1 ⟨rfl, hw⟩
      replace hw := hw.symm
      subst hw
      go_wp2_with fail
      refine (HFQ.out _).mono ?_
      rintro e w1 ⟨rfl, hw⟩
      replace hw := hw.symm
      subst hw
      go_wp2
      go_ret
      exact ⟨rfl, rfl⟩
    · have g1 : (1 : Int) < (u.length : Int) := by omega
      have g0 : 0 < u.length := by omega
      go_enter Tryz.func122, Tryz.ntmps122
      go_wp2_with fail
      refine HL.out.mono ?_
      rintro e w1 ⟨rfl, hw⟩
      replace hw := hw.symm
      subst hw
      go_wp2_with fail
      refine (HFQ.out _).mono ?_
      rintro e w1 ⟨rfl, hw⟩
      replace hw := hw.symm
      subst hw
      go_wp2_with fail
      refine (HFQ.out _).mono ?_
      rintro e w1 ⟨rfl, hw⟩
      replace hw := hw.symm
      subst hw
      go_wp2
      go_ret
      exact ⟨rfl, rfl⟩
    · have g1 : (1 : Int) < (u.length : Int) := by omega
      have g0 : 0 < u.length := by omega
      go_enter Tryz.func122, Tryz.ntmps122
      go_wp2_with fail
      refine HL.out.mono ?_
      rintro e w1 ⟨rfl, hw⟩
      replace hw := hw.symm
      subst hw
      go_wp2_with fail
      refine (HFQ.out _).mono ?_
      rintro e w1 ⟨rfl, hw⟩
      replace hw := hw.symm
      subst hw
      go_wp2_with fail
      refine (HFQ.out _).mono ?_
      rintro e w1 ⟨rfl, hw⟩
      replace hw := hw.symm
      subst hw
      go_wp2
      go_ret
      exact ⟨rfl, rfl⟩
  · have b45 := beq_eq_false_iff_ne.2 c45
    obtain rfl : u = q := by
      by_cases hn0 : n = 0
      · have : q = [] := List.length_eq_zero_iff.1 (by omega)
        rw [hu, this]; simp
      · have ha := hfq hn0
        have : m = 0 := by rw [hm]; simp [Tx.sgn, ← ha, c45]
        rw [hu, this]; rfl
    clear hfq hf0 HR hm hu q2 hsq hq
    rcases hcs with ⟨h1, rfl⟩ | ⟨h1, h2, rfl⟩ | ⟨h1, h2, h3, rfl⟩ | ⟨h1, h2, h3, h4, rfl⟩ | ⟨h1, h2, h3, h4, rfl⟩
    · have g1 : ¬ (1 : Int) < (u.length : Int) := by omega
      go_enter Tryz.func122, Tryz.ntmps122
      go_wp2_with fail
      refine HL.out.mono ?_
      rintro e w1 ⟨rfl, hw⟩
      replace hw := hw.symm
      subst hw
      go_wp2_with fail
      refine (HFQ.out _).mono ?_
      rintro e w1 ⟨rfl, hw⟩
      replace hw := hw.symm
      subst hw
      go_wp2_with fail
      refine (HFQ.out _).mono ?_
      rintro e w1 ⟨rfl, hw⟩
      replace hw := hw.symm
      subst hw
      go_wp2
      go_ret
      exact ⟨rfl, rfl⟩
    · have g1 : (1 : Int) < (u.length : Int) := by omega
      have g0 : 0 < u.length := by omega
      have g2 := beq_eq_false_iff_ne.2 h2
      go_enter Tryz.func122, Tryz.ntmps122
      go_wp2_with fail
      refine HL.out.mono ?_
      rintro e w1 ⟨rfl, hw⟩
      replace hw := hw.symm
      subst hw
      go_wp2_with fail
      refine (HFQ.out _).mono ?_
      rintro e w1 ⟨rfl, hw⟩
      replace hw := hw.symm
      subst hw
      go_wp2_with fail
      refine (HFQ.out _).mono ?_
      rintro e w1 ⟨rfl, hw⟩
      replace hw := hw.symm
      subst hw
      go_wp2
      go_ret
      exact ⟨rfl, rfl⟩
    · have g1 : (1 : Int) < (u.length : Int) := by omega
      have g0 : 0 < u.length := by omega
      go_enter Tryz.func122, Tryz.ntmps122
      go_wp2_with fail
      refine HL.out.mono ?_
      rintro e w1 ⟨rfl, hw⟩
      replace hw := hw.symm
      subst hw
      go_wp2_with fail
      refine (HFQ.out _).mono ?_
      rintro e w1 ⟨rfl, hw⟩
      replace hw := hw.symm
      subst hw
      go_wp2_with fail
      refine (HFQ.out _).mono ?_
      rintro e w1 ⟨rfl, hw⟩
      replace hw := hw.symm
      subst hw
      go_wp2
      go_ret
      exact ⟨rfl, rfl⟩
    · have g1 : (1 : Int) < (u.length : Int) := by omega
      have g0 : 0 < u.length := by omega
      go_enter Tryz.func122, Tryz.ntmps122
      go_wp2_with fail
      refine HL.out.mono ?_
      rintro e w1 ⟨rfl, hw⟩
      replace hw := hw.symm
      subst hw
      go_wp2_with fail
      refine (HFQ.out _).mono ?_
      rintro e w1 ⟨rfl, hw⟩
      replace hw := hw.symm
      subst hw
      go_wp2_with fail
      refine (HFQ.out _).mono ?_
      rintro e w1 ⟨rfl, hw⟩
      replace hw := hw.symm
      subst hw
      go_wp2
      go_ret
      exact ⟨rfl, rfl⟩
    · have g1 : (1 : Int) < (u.length : Int) := by omega
      have g0 : 0 < u.length := by omega
      go_enter Tryz.func122, Tryz.ntmps122
      go_wp2_with fail
      refine HL.out.mono ?_
      rintro e w1 ⟨rfl, hw⟩
      replace hw := hw.symm
      subst hw
      go_wp2_with fail
      refine (HFQ.out _).mono ?_
      rintro e w1 ⟨rfl, hw⟩
      replace hw := hw.symm
      subst hw
      go_wp2_with fail
      refine (HFQ.out _).mono ?_
      rintro e w1 ⟨rfl, hw⟩
      replace hw := hw.symm
      subst hw
      go_wp2
      go_ret
      exact ⟨rfl, rfl⟩
end Go.Proofs.YtcclepohmhdpbabGreatDoor
