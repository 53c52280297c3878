import Derived.Test.YtcclepohmhdpbabGreatDoorTxB
import Derived.Test.YtcclepohmhdpbabGreatDoorWalkI
namespace Go.Proofs.YtcclepohmhdpbabGreatDoor
set_option linter.all false
open Go.RowKit Go.Deep
namespace Tx
def cap (B : Int) (l : List UInt8) (e : Int) : Int := l.foldl (fun e c => if e < B then e * 10 + ((c.toNat : Int) - 48) else e) e
def allDig (l : List UInt8) : Prop := ∀ c ∈ l, digit c.toNat = true
theorem cap_cons (B : Int) (c : UInt8) (l : List UInt8) (e : Int) : cap B (c :: l) e = cap B l (if e < B then e * 10 + ((c.toNat : Int) - 48) else e) := rfl
theorem dig_at {l : List UInt8} {n i : Nat} (h : allDig (l.drop n)) (hn : n ≤ i) (hi : i < l.length) : 48 ≤ at_ l i ∧ at_ l i ≤ 57 := by
  have hm : l[i] ∈ l.drop n := by
    rw [List.mem_drop_iff_getElem]
    exact ⟨i - n, by omega, by congr 1; omega⟩
  have := h _ hm
  rw [at_lt hi]
  simpa [digit] using this
theorem cap_step {B : Int} {l : List UInt8} {i : Nat} (hi : i < l.length) (e : Int) : cap B (l.drop i) e = cap B (l.drop (i + 1)) (if e < B then e * 10 + (at_ l i - 48) else e) := by
  rw [drop_cons hi, cap_cons, at_lt hi]
theorem cap_end {B : Int} {l : List UInt8} {i : Nat} (hi : ¬ i < l.length) (e : Int) : cap B (l.drop i) e = e := by
  rw [List.drop_of_length_le (Nat.le_of_not_lt hi)]; rfl
end Tx
set_option maxHeartbeats 1000000 in
theorem exponent_any (l : List UInt8) (w : World) (hl : l.length ≤ 9223372036854775807) (hd : Tx.allDig (l.drop (Tx.sgn true l 0))) :
    Calls Tryz.prog 168 #[.string (bs l)] w fun e w' => e = .returned (.int .i64 (if Tx.at_ l 0 = 45 then - Tx.cap 60000 (l.drop (Tx.sgn true l 0)) 0 else Tx.cap 60000 (l.drop (Tx.sgn true l 0)) 0)) ∧ w' = w := by
  obtain ⟨e0, e1, e2, e3, e4, e5⟩ := bs_tells l
  clear e2 e3 e4 e5
  obtain ⟨n, hn⟩ : ∃ n, n = Tx.sgn true l 0 := ⟨_, rfl⟩
  have hs : n ≤ l.length := by have := Tx.sgn_le true l 0 (Nat.zero_le _); rw [hn]; omega
  rw [← hn] at hd ⊢
  have HN : Hid (n = Tx.sgn true l 0) := hn
  have HD : Hid (Tx.allDig (l.drop n)) := hd
  clear hn hd
  obtain ⟨R, hR⟩ : ∃ R, R = Tx.cap 60000 (l.drop n) 0 := ⟨_, rfl⟩
  rw [← hR]
  have HR : Hid (R = Tx.cap 60000 (l.drop n) 0) := hR
  clear hR
  go_enter Tryz.func168, Tryz.ntmps168
  go_wp2_with (go_at_call 155; refine (signLength_any _ _ hl).mono ?_; rintro e w' ⟨k, rfl, rfl, hk, hle⟩; obtain rfl : n = k := HN.out.trans hk.out.symm; clear hk hle)
  go_loop [3, 4] (fun p i => ∃ (q : Nat) (e : Int), q ≤ l.length ∧ n ≤ q ∧ i = .int .i64 q ∧ p = .int .i64 e ∧ 0 ≤ e ∧ e ≤ 600000 ∧ Hid (R = Tx.cap 60000 (l.drop q) e)) (fun _ i => l.length - (intOf i).toNat)
  case atStart => exact ⟨n, 0, hs, Nat.le_refl _, rfl, rfl, by omega, by omega, HR⟩
  case round =>
    obtain ⟨q, e, hq, hnq, rfl, rfl, h0, h6, HE⟩ := hrel
    by_cases hlt : q < l.length
    · obtain ⟨d1, d2⟩ := Tx.dig_at HD.out hnq hlt
      have HS := hide (HE.out.trans (Tx.cap_step hlt e))
      clear HE
      by_cases hc : e < 60000
      · go_wp2
        go_round
        case rel => exact ⟨q + 1, e * 10 + (Tx.at_ l q - 48), by omega, by omega, by go_num, by go_num, by omega, by omega, by have := HS.out; rw [if_pos hc] at this; exact this⟩
        case measure => simp [intOf]; omega
      · go_wp2
        go_round
        case rel => exact ⟨q + 1, e, by omega, by omega, by go_num, rfl, by omega, by omega, by have := HS.out; rw [if_neg hc] at this; exact this⟩
        case measure => simp [intOf]; omega
    · have HS := hide (HE.out.trans (Tx.cap_end hlt e))
      clear HE
      by_cases hz : 0 < l.length
      · by_cases h45 : Tx.at_ l 0 = 45
        · go_wp2
          go_ret
          exact ⟨by rw [HS.out]; rfl, rfl⟩
        · go_wp2
          go_ret
          exact ⟨by rw [HS.out]; rfl, rfl⟩
      · have h45 : ¬ Tx.at_ l 0 = 45 := by rw [Tx.at_ge hz]; decide
        go_wp2
        go_ret
        exact ⟨by rw [HS.out]; rfl, rfl⟩
end Go.Proofs.YtcclepohmhdpbabGreatDoor

namespace Go.Proofs.YtcclepohmhdpbabGreatDoor
set_option linter.all false
open Go.RowKit Go.Deep
namespace Tx
def val (l : List UInt8) (v : Nat) : Nat := l.foldl (fun v c => v * 10 + (c.toNat - 48)) v
theorem val_step {l : List UInt8} {i : Nat} (hi : i < l.length) (v : Nat) : val (l.drop i) v = val (l.drop (i + 1)) (v * 10 + (l[i].toNat - 48)) := by
  rw [drop_cons hi]; rfl
theorem val_end {l : List UInt8} {i : Nat} (hi : ¬ i < l.length) (v : Nat) : val (l.drop i) v = v := by
  rw [List.drop_of_length_le (Nat.le_of_not_lt hi)]; rfl
theorem dig_get {l : List UInt8} {i : Nat} (h : allDig l) (hi : i < l.length) : 48 ≤ l[i].toNat ∧ l[i].toNat ≤ 57 := by
  have := h _ (List.getElem_mem hi)
  have := (show (48 : Int) ≤ (l[i].toNat : Int) ∧ (l[i].toNat : Int) ≤ 57 by simpa [digit] using this)
  omega
def amt (l : List UInt8) (p : Int) : Option Nat :=
  if l = [] then some 0
  else if p < -4 ∨ (l.length : Int) + p > 4 then none
  else if val l 0 * 10 ^ (p + 4).toNat % 625 ≠ 0 ∨ val l 0 * 10 ^ (p + 4).toNat / 625 > 32768 then none
  else some (val l 0 * 10 ^ (p + 4).toNat / 625)
end Tx
def optV : Option Nat → Value
  | some k => .tuple #[.int .i64 (k : Nat), .bool true]
  | none => .tuple #[.int .i64 0, .bool false]
theorem amt_none {l : List UInt8} {p : Int} (h0 : l ≠ []) (h : p < -4 ∨ (l.length : Int) + p > 4) : Tx.amt l p = none := by
  simp [Tx.amt, h0, h]
set_option maxHeartbeats 4000000 in
theorem amountOf_any (b : Bool) (l : List UInt8) (p : Int) (w : World) (hl : l.length ≤ 6000) (hp : -1000000 ≤ p) (hp2 : p ≤ 1000000) (hd : Tx.allDig l) :
    Calls Tryz.prog 167 #[.agg #[.bool b, .string (bs l), .int .i64 p]] w fun e w' => e = .returned (optV (Tx.amt l p)) ∧ Up w w' := by
  obtain ⟨e0, e1, e2, e3, e4, e5⟩ := bs_tells l
  clear e2 e3 e4 e5
  have HD := hide hd
  clear hd
  by_cases hz : l = []
  · have hz' : l.length = 0 := by rw [hz]; rfl
    have HA := hide (show Tx.amt l p = some 0 by simp [Tx.amt, hz])
    clear hz
    go_enter Tryz.func167, Tryz.ntmps167
    go_wp2
    go_ret2
    exact ⟨by rw [HA.out]; rfl, (Up.refl _).alloc _⟩
  · have h1 : 0 < l.length := by cases l with
      | nil => exact absurd rfl hz
      | cons a t => simp
    have hz' : ((l.length : Int) == 0) = false := beq_eq_false_iff_ne.2 (by omega)
    by_cases hlo : p < -4
    · have HA := hide (amt_none hz (.inl hlo))
      clear hz
      go_enter Tryz.func167, Tryz.ntmps167
      go_wp2
      go_ret2
      exact ⟨by rw [HA.out]; rfl, (Up.refl _).alloc _⟩
    · by_cases hhi : (l.length : Int) + p > 4
      · have HA := hide (amt_none hz (.inr hhi))
        clear hz
        go_enter Tryz.func167, Tryz.ntmps167
        go_wp2
        go_ret2
        exact ⟨by rw [HA.out]; rfl, (Up.refl _).alloc _⟩
      · obtain ⟨V, hV⟩ : ∃ V, V = Tx.val l 0 := ⟨_, rfl⟩
        obtain ⟨T, hT⟩ : ∃ T, T = Tx.val l 0 * 10 ^ (p + 4).toNat := ⟨_, rfl⟩
        have HA := hide (show Tx.amt l p = (if T % 625 ≠ 0 ∨ T / 625 > 32768 then none else some (T / 625)) by
          rw [hT]; unfold Tx.amt; rw [if_neg hz, if_neg (by omega)])
        have HV := hide hV
        have HT := hide hT
        clear hz hV hT
        have h8 : l.length ≤ 8 := by omega
        go_enter Tryz.func167, Tryz.ntmps167
        go_wp2
        go_loop [4, 5] (fun s i => ∃ q v : Nat, q ≤ l.length ∧ i = .int .i64 q ∧ s = .int .i64 v ∧ v < 100000000 ∧ Hid (v < 10 ^ q) ∧ Hid (V = Tx.val (l.drop q) v)) (fun _ i => l.length - (intOf i).toNat)
        case atStart => exact ⟨0, 0, Nat.zero_le _, rfl, rfl, by omega, by simp [Hid], HV⟩
        case round =>
          obtain ⟨q, v, hq, rfl, rfl, hv8, Hv, HW⟩ := hrel
          by_cases hlt : q < l.length
          · obtain ⟨d1, d2⟩ := Tx.dig_get HD.out hlt
            have HS := hide (HW.out.trans (Tx.val_step hlt v))
            have e6 : Tx.at_ l q = (l[q].toNat : Int) := Tx.at_lt hlt
            generalize l[q].toNat = c at d1 d2 HS e6
            have Hn : v * 10 + (c - 48) < 10 ^ (q + 1) := by have := Hv.out; rw [Nat.pow_succ]; omega
            have hn8 : v * 10 + (c - 48) < 100000000 := Nat.lt_of_lt_of_le Hn (Nat.pow_le_pow_right (n := 10) (by omega) (show q + 1 ≤ 8 by omega))
            have HN := hide Hn
            clear Hn HW Hv
            go_wp2
            go_round
            case rel => exact ⟨q + 1, v * 10 + (c - 48), by omega, by go_num, by go_num, hn8, HN, HS⟩
            case measure => simp [intOf]; omega
          · obtain rfl : V = v := HW.out.trans (Tx.val_end hlt v)
            obtain rfl : q = l.length := by omega
            clear HW
            obtain ⟨J, hJ⟩ : ∃ J : Nat, J = (p + 4).toNat := ⟨_, rfl⟩
            have hJ' : (J : Int) = p + 4 := by omega
            have hJ8 : l.length + J ≤ 8 := by omega
            have HT' : Hid (T = V * 10 ^ J) := by have := HT.out; rw [← HV.out, ← hJ] at this; exact this
            clear HT HV hJ
            obtain rfl : p = (J : Int) - 4 := by omega
            clear hJ'
            go_wp2
            go_loop [4, 6] (fun s i => ∃ j u : Nat, j ≤ J ∧ i = .int .i64 ((J : Int) - 4 - j) ∧ s = .int .i64 u ∧ u < 100000000 ∧ Hid (u = V * 10 ^ j)) (fun _ i => (intOf i + 4).toNat)
            case atStart => exact ⟨0, V, Nat.zero_le _, by simp, rfl, hv8, by simp [Hid]⟩
            case round =>
              obtain ⟨j, u, hj, rfl, rfl, hu8, HU⟩ := hrel
              by_cases hlt2 : j < J
              · have Hn : u * 10 = V * 10 ^ (j + 1) := by rw [HU.out, Nat.pow_succ, Nat.mul_assoc]
                have hn8 : u * 10 < 100000000 := by
                  rw [Hn]
                  have a1 : V * 10 ^ (j + 1) < 10 ^ l.length * 10 ^ (j + 1) := Nat.mul_lt_mul_of_pos_right Hv.out (Nat.pos_of_ne_zero (by simp))
                  rw [← Nat.pow_add] at a1
                  exact Nat.lt_of_lt_of_le a1 (Nat.pow_le_pow_right (n := 10) (by omega) (show l.length + (j + 1) ≤ 8 by omega))
                have HN := hide Hn
                clear Hn HU
                go_wp2
                go_round
                case rel => exact ⟨j + 1, u * 10, by omega, by go_num, by go_num, hn8, HN⟩
                case measure => simp [intOf]; omega
              · obtain rfl : j = J := by omega
                obtain rfl : T = u := HT'.out.trans HU.out.symm
                clear HU HT' Hv
                by_cases r1 : T % 625 = 0
                · by_cases r2 : T / 625 > 32768
                  · have HB := hide (HA.out.trans (if_pos (.inr r2)))
                    go_wp2
                    go_ret2
                    exact ⟨by rw [HB.out]; rfl, (Up.refl _).alloc _⟩
                  · have HB := hide (HA.out.trans (if_neg (by omega)))
                    go_wp2
                    go_ret2
                    exact ⟨by rw [HB.out]; rfl, (Up.refl _).alloc _⟩
                · have HB := hide (HA.out.trans (if_pos (.inl r1)))
                  go_wp2
                  go_ret2
                  exact ⟨by rw [HB.out]; rfl, (Up.refl _).alloc _⟩
end Go.Proofs.YtcclepohmhdpbabGreatDoor

namespace Go.Proofs.YtcclepohmhdpbabGreatDoor
set_option linter.all false
open Go.RowKit Go.Deep
namespace Tx
def z (c : UInt8) : Bool := c == 48
def trL (l : List UInt8) : List UInt8 := l.dropWhile z
def trR (l : List UInt8) : List UInt8 := (l.reverse.dropWhile z).reverse
theorem z_at {l : List UInt8} {i : Nat} (h : i < l.length) : z l[i] = (at_ l i == 48) := by
  rw [at_lt h, z, Bool.eq_iff_iff]
  simp only [beq_iff_eq]
  constructor
  · intro h; rw [h]; rfl
  · intro h; exact UInt8.toNat_inj.1 (by have : (48 : UInt8).toNat = 48 := rfl; omega)
theorem trL_step {l : List UInt8} {q : Nat} (hq : q < l.length) : trL (l.drop q) = if at_ l q = 48 then trL (l.drop (q + 1)) else l.drop q := by
  have := z_at hq
  by_cases h : at_ l q = 48
  · rw [if_pos h, drop_cons hq, trL, List.dropWhile_cons, this, h]; rfl
  · rw [if_neg h, drop_cons hq, trL, List.dropWhile_cons, this]
    simp [h]
theorem trR_snoc (l : List UInt8) (c : UInt8) : trR (l ++ [c]) = if z c then trR l else l ++ [c] := by
  cases h : z c <;> simp [trR, List.dropWhile_cons, h]
theorem win_snoc {l : List UInt8} {f t : Nat} (hf : f < t) (ht : t ≤ l.length) : (l.drop f).take (t - f) = (l.drop f).take (t - 1 - f) ++ [l[t - 1]'(by omega)] := by
  have e : t - f = (t - 1 - f) + 1 := by omega
  rw [e, List.take_succ_eq_append_getElem (by simp; omega)]
  congr 2
  simp
  congr 1
  omega
theorem trR_step {l : List UInt8} {f t : Nat} (hf : f < t) (ht : t ≤ l.length) : trR ((l.drop f).take (t - f)) = if at_ l (t - 1) = 48 then trR ((l.drop f).take (t - 1 - f)) else (l.drop f).take (t - f) := by
  have := z_at (l := l) (i := t - 1) (by omega)
  rw [win_snoc hf ht, trR_snoc, this]
  by_cases h : at_ l (t - 1) = 48 <;> simp [h]
end Tx
theorem load_number {W : World} {b : Nat} {v0 v1 v2 : Value} (h : VRow W b 179 [v0, v1, v2]) : (loadVar 179 ⟨b, 0, none⟩).run Tryz.prog W = .ok (.agg #[v0, v1, v2]) W := by
  have c0 := h.cell (i := 0) (v := v0) rfl
  have c1 := h.cell (i := 1) (v := v1) rfl
  have c2 := h.cell (i := 2) (v := v2) rfl
  simp [go_sem, c0, c1, c2]
theorem vrow_new2 (w : World) (o : Obj) (v0 v1 v2 : Value) (t : TypeId) : VRow ((w.alloc o).alloc (.cells #[v0, v1, v2] t)) (w.heap.size + 1) t [v0, v1, v2] := by
  have h := VRow.new (w.alloc o) [v0, v1, v2] t
  have e : (w.alloc o).heap.size = w.heap.size + 1 := by simp
  rw [e] at h
  exact h
theorem ret_trim {a : Act} {W : World} {Q : Ending → World → Prop} {b : Nat} {v0 v1 v2 : Value} (h4 : a.tmps.getD 2 undef = .pointer (some ⟨b, 0, none⟩)) (hd : a.defers = []) (hrow : VRow W b 179 [v0, v1, v2])
    (hQ : Q (.returned (.agg #[v0, v1, v2])) W) : bodyPost Tryz.prog Tryz.f166 Q .ret a W := by
  refine bodyPost_ret (v := .agg #[v0, v1, v2]) ?_ hd hQ
  rw [results_cell Tryz.results166, h4]
  simp only [asAddr, Sem.run_pure, Result.andThen_ok]
  exact load_number hrow
set_option maxHeartbeats 4000000 in
theorem trim_any (b : Bool) (l : List UInt8) (p : Int) (w : World) (hl : l.length ≤ 6000) (hp : -900000 ≤ p) (hp2 : p ≤ 900000) :
    Calls Tryz.prog 166 #[.agg #[.bool b, .string (bs l), .int .i64 p]] w fun e w' => e = .returned (.agg #[.bool b, .string (bs (Tx.trR (Tx.trL l))), .int .i64 (p + (((Tx.trL l).length : Int) - ((Tx.trR (Tx.trL l)).length : Int)))]) ∧ Up w w' := by
  obtain ⟨e0, e1, e2, e3, e4, e5⟩ := bs_tells l
  have e7 : ∀ a b, (bs l).extract a b = bs ((l.drop a).take (b - a)) := bs_extract l
  clear e2 e3 e4 e5
  go_enter Tryz.func166, Tryz.ntmps166
  go_wp2
  go_loop [3] (fun i => ∃ q : Nat, q ≤ l.length ∧ i = .int .i64 q ∧ Hid (Tx.trL l = Tx.trL (l.drop q))) (fun i => l.length - (intOf i).toNat)
  case atStart => exact ⟨0, Nat.zero_le _, rfl, rfl⟩
  case round =>
    obtain ⟨q, hq, rfl, HQ⟩ := hrel
    by_cases hg : q < l.length ∧ Tx.at_ l q = 48
    · obtain ⟨h1, h2⟩ := hg
      have HS := hide (HQ.out.trans ((Tx.trL_step h1).trans (if_pos h2)))
      clear HQ
      go_wp2
      go_round
      case rel => exact ⟨q + 1, by omega, by go_num, HS⟩
      case measure => simp [intOf]; omega
    · have HS : Hid (Tx.trL l = l.drop q) := by
        by_cases h1 : q < l.length
        · exact HQ.out.trans ((Tx.trL_step h1).trans (if_neg (fun e => hg ⟨h1, e⟩)))
        · have := HQ.out
          rw [List.drop_of_length_le (Nat.le_of_not_lt h1)] at this ⊢
          exact this
      clear HQ
      have hcase : (q = l.length) ∨ (q < l.length ∧ (Tx.at_ l q == 48) = false) := by
        by_cases h1 : q < l.length
        · exact .inr ⟨h1, beq_eq_false_iff_ne.2 (fun e => hg ⟨h1, e⟩)⟩
        · exact .inl (by omega)
      clear hg
      rcases hcase with hc | ⟨hc, hc2⟩
      all_goals
        go_wp2
        go_loop [4] (fun i => ∃ t : Nat, q ≤ t ∧ t ≤ l.length ∧ i = .int .i64 t ∧ Hid (Tx.trR (Tx.trL l) = Tx.trR ((l.drop q).take (t - q)))) (fun i => (intOf i).toNat)
        case atStart => exact ⟨l.length, hq, Nat.le_refl _, rfl, by rw [HS.out, List.take_of_length_le (by simp)]; exact rfl⟩
        case round =>
          obtain ⟨t, hqt, ht, rfl, HT⟩ := hrel
          by_cases hgt : q < t ∧ Tx.at_ l (t - 1) = 48
          · obtain ⟨h1, h2⟩ := hgt
            have HU := hide (HT.out.trans ((Tx.trR_step h1 ht).trans (if_pos h2)))
            clear HT
            obtain ⟨s, rfl⟩ : ∃ s, t = s + 1 := ⟨t - 1, by omega⟩
            simp only [Nat.add_sub_cancel] at h2 HU
            go_wp2
            all_goals
              go_round
              case rel => exact ⟨s, by omega, by omega, by go_num, HU⟩
              case measure => simp [intOf] <;> omega
          · obtain ⟨X, hX⟩ : ∃ X, X = (l.drop q).take (t - q) := ⟨_, rfl⟩
            have HX : Hid (Tx.trR (Tx.trL l) = X) := by
              rw [hX]
              by_cases h1 : q < t
              · exact HT.out.trans ((Tx.trR_step h1 ht).trans (if_neg (fun e => hgt ⟨h1, e⟩)))
              · have e : t - q = 0 := by omega
                have := HT.out
                rw [e, List.take_zero] at this ⊢
                exact this
            have HL : Hid (p + (((Tx.trL l).length : Int) - ((Tx.trR (Tx.trL l)).length : Int)) = p + ((l.length : Int) - t)) := by
              rw [HX.out, HS.out, hX]
              simp [Hid]
              omega
            have e8 : (bs l).extract q t = bs X := by rw [hX]; exact e7 q t
            have Hz : Hid (q = t → bs X = ByteArray.empty) := by
              intro e
              rw [hX, e, Nat.sub_self, List.take_zero]
              rfl
            clear e7 hX HT
            have hcase2 : (q = t) ∨ (q < t ∧ (Tx.at_ l (t - 1) == 48) = false) := by
              by_cases h1 : q < t
              · exact .inr ⟨h1, beq_eq_false_iff_ne.2 (fun e => hgt ⟨h1, e⟩)⟩
              · exact .inl (by omega)
            clear hgt
            rcases hcase2 with hd | ⟨hd, hd2⟩
            · subst hd
              go_wp2
              all_goals
                refine ret_trim rfl rfl (vrow_new2 _ _ _ _ _ _) ⟨?_, ((Up.refl _).alloc _).alloc _⟩
                rw [HL.out, HX.out, Hz.out (by omega)]
                try simp
                try omega
            · obtain ⟨s, rfl⟩ : ∃ s, t = s + 1 := ⟨t - 1, by omega⟩
              simp only [Nat.add_sub_cancel] at hd2
              go_wp2
              all_goals
                refine ret_trim rfl rfl (vrow_new2 _ _ _ _ _ _) ⟨?_, ((Up.refl _).alloc _).alloc _⟩
                rw [HL.out, HX.out]
                try simp
                try omega
end Go.Proofs.YtcclepohmhdpbabGreatDoor
