/- THE PROGRAM's NUMBERS: noughts taken off. -/
import Derived.Test.YtcclepohmhdpbabGreatDoorTxE
import Derived.Test.YtcclepohmhdpbabGreatDoorWalkI
namespace Go.Proofs.YtcclepohmhdpbabGreatDoor
set_option linter.all false
open Go.RowKit Go.Deep

namespace Tx
def z (c : UInt8) : Bool := c == 48
def trL (l : List UInt8) : List UInt8 := l.dropWhile z
def trR (l : List UInt8) : List UInt8 := (l.reverse.dropWhile z).reverse
theorem z_at {l : List UInt8} {i : Nat} (h : i < l.length) : z l[i] = (at_ l i == 48) := by
  rw [at_lt h, z, Bool.eq_iff_iff]
  simp only [beq_iff_eq]
  constructor
  · intro h; rw [h]; rfl
  · intro h; exact UInt8.toNat_inj.1 (by have : (48 : UInt8).toNat = 48 := rfl; omega)
theorem trL_step {l : List UInt8} {q : Nat} (hq : q < l.length) : trL (l.drop q) = if at_ l q = 48 then trL (l.drop (q + 1)) else l.drop q := by
  have := z_at hq
  by_cases h : at_ l q = 48
  · rw [if_pos h, drop_cons hq, trL, List.dropWhile_cons, this, h]; rfl
  · rw [if_neg h, drop_cons hq, trL, List.dropWhile_cons, this]
    simp [h]
theorem trR_snoc (l : List UInt8) (c : UInt8) : trR (l ++ [c]) = if z c then trR l else l ++ [c] := by
  cases h : z c <;> simp [trR, List.dropWhile_cons, h]
theorem trR_nil : trR [] = [] := rfl
theorem win_snoc {l : List UInt8} {f t : Nat} (hf : f < t) (ht : t ≤ l.length) : (l.drop f).take (t - f) = (l.drop f).take (t - 1 - f) ++ [l[t - 1]'(by omega)] := by
  have e : t - f = (t - 1 - f) + 1 := by omega
  rw [e, List.take_succ_eq_append_getElem (by simp; omega)]
  congr 2
  simp
  congr 1
  omega
theorem trR_step {l : List UInt8} {f t : Nat} (hf : f < t) (ht : t ≤ l.length) : trR ((l.drop f).take (t - f)) = if at_ l (t - 1) = 48 then trR ((l.drop f).take (t - 1 - f)) else (l.drop f).take (t - f) := by
  have := z_at (l := l) (i := t - 1) (by omega)
  rw [win_snoc hf ht, trR_snoc, this]
  by_cases h : at_ l (t - 1) = 48 <;> simp [h]
end Tx

theorem load_number {W : World} {b : Nat} {v0 v1 v2 : Value} (h : VRow W b 179 [v0, v1, v2]) : (loadVar 179 ⟨b, 0, none⟩).run Tryz.prog W = .ok (.agg #[v0, v1, v2]) W := by
  have c0 := h.cell (i := 0) (v := v0) rfl
  have c1 := h.cell (i := 1) (v := v1) rfl
  have c2 := h.cell (i := 2) (v := v2) rfl
  simp [go_sem, c0, c1, c2]

theorem vrow_new2 (w : World) (o : Obj) (v0 v1 v2 : Value) (t : TypeId) : VRow ((w.alloc o).alloc (.cells #[v0, v1, v2] t)) (w.heap.size + 1) t [v0, v1, v2] := by
  have h := VRow.new (w.alloc o) [v0, v1, v2] t
  have e : (w.alloc o).heap.size = w.heap.size + 1 := by simp
  rw [e] at h
  exact h

theorem ret_trim {a : Act} {W : World} {Q : Ending → World → Prop} {b : Nat} {v0 v1 v2 : Value} (h4 : a.tmps.getD 2 undef = .pointer (some ⟨b, 0, none⟩)) (hd : a.defers = []) (hrow : VRow W b 179 [v0, v1, v2])
    (hQ : Q (.returned (.agg #[v0, v1, v2])) W) : bodyPost Tryz.prog Tryz.f166 Q .ret a W := by
  refine bodyPost_ret (v := .agg #[v0, v1, v2]) ?_ hd hQ
  rw [results_cell Tryz.results166, h4]
  simp only [asAddr, Sem.run_pure, Result.andThen_ok]
  exact load_number hrow

set_option maxHeartbeats 4000000 in
theorem trim_any (b : Bool) (l : List UInt8) (p : Int) (w : World) (hl : l.length ≤ 6000) (hp : -900000 ≤ p) (hp2 : p ≤ 900000) :
    Calls Tryz.prog 166 #[.agg #[.bool b, .string (bs l), .int .i64 p]] w fun e w' => e = .returned (.agg #[.bool b, .string (bs (Tx.trR (Tx.trL l))), .int .i64 (p + (((Tx.trL l).length : Int) - ((Tx.trR (Tx.trL l)).length : Int)))]) ∧ Up w w' := by
  obtain ⟨e0, e1, e2, e3, e4, e5⟩ := bs_tells l
  have e7 : ∀ a b, (bs l).extract a b = bs ((l.drop a).take (b - a)) := bs_extract l
  clear e2 e3 e4 e5
  go_enter Tryz.func166, Tryz.ntmps166
  go_wp2
  go_loop [3] (fun i => ∃ q : Nat, q ≤ l.length ∧ i = .int .i64 q ∧ Hid (Tx.trL l = Tx.trL (l.drop q))) (fun i => l.length - (intOf i).toNat)
  case atStart => exact ⟨0, Nat.zero_le _, rfl, rfl⟩
  case round =>
    obtain ⟨q, hq, rfl, HQ⟩ := hrel
    by_cases hg : q < l.length ∧ Tx.at_ l q = 48
    · obtain ⟨h1, h2⟩ := hg
      have HS := hide (HQ.out.trans ((Tx.trL_step h1).trans (if_pos h2)))
      clear HQ
      go_wp2
      go_round
      case rel => exact ⟨q + 1, by omega, by go_num, HS⟩
      case measure => simp [intOf]; omega
    · have HS : Hid (Tx.trL l = l.drop q) := by
        by_cases h1 : q < l.length
        · exact HQ.out.trans ((Tx.trL_step h1).trans (if_neg (fun e => hg ⟨h1, e⟩)))
        · have := HQ.out
          rw [List.drop_of_length_le (Nat.le_of_not_lt h1)] at this ⊢
          exact this
      clear HQ
      have hcase : (q = l.length) ∨ (q < l.length ∧ (Tx.at_ l q == 48) = false) := by
        by_cases h1 : q < l.length
        · exact .inr ⟨h1, beq_eq_false_iff_ne.2 (fun e => hg ⟨h1, e⟩)⟩
        · exact .inl (by omega)
      clear hg
      rcases hcase with hc | ⟨hc, hc2⟩
      all_goals
        go_wp2
        go_loop [4] (fun i => ∃ t : Nat, q ≤ t ∧ t ≤ l.length ∧ i = .int .i64 t ∧ Hid (Tx.trR (Tx.trL l) = Tx.trR ((l.drop q).take (t - q)))) (fun i => (intOf i).toNat)
        case atStart => exact ⟨l.length, hq, Nat.le_refl _, rfl, by rw [HS.out, List.take_of_length_le (by simp)]; exact rfl⟩
        case round =>
          obtain ⟨t, hqt, ht, rfl, HT⟩ := hrel
          by_cases hgt : q < t ∧ Tx.at_ l (t - 1) = 48
          · obtain ⟨h1, h2⟩ := hgt
            have HU := hide (HT.out.trans ((Tx.trR_step h1 ht).trans (if_pos h2)))
            clear HT
            obtain ⟨s, rfl⟩ : ∃ s, t = s + 1 := ⟨t - 1, by omega⟩
            simp only [Nat.add_sub_cancel] at h2 HU
            go_wp2
            all_goals
              go_round
              case rel => exact ⟨s, by omega, by omega, by go_num, HU⟩
              case measure => simp [intOf] <;> omega
          · obtain ⟨X, hX⟩ : ∃ X, X = (l.drop q).take (t - q) := ⟨_, rfl⟩
            have HX : Hid (Tx.trR (Tx.trL l) = X) := by
              rw [hX]
              by_cases h1 : q < t
              · exact HT.out.trans ((Tx.trR_step h1 ht).trans (if_neg (fun e => hgt ⟨h1, e⟩)))
              · have e : t - q = 0 := by omega
                have := HT.out
                rw [e, List.take_zero] at this ⊢
                exact this
            have HL : Hid (p + (((Tx.trL l).length : Int) - ((Tx.trR (Tx.trL l)).length : Int)) = p + ((l.length : Int) - t)) := by
              rw [HX.out, HS.out, hX]
              simp [Hid]
              omega
            have e8 : (bs l).extract q t = bs X := by rw [hX]; exact e7 q t
            have Hz : Hid (q = t → bs X = ByteArray.empty) := by
              intro e
              rw [hX, e, Nat.sub_self, List.take_zero]
              rfl
            clear e7 hX HT
            have hcase2 : (q = t) ∨ (q < t ∧ (Tx.at_ l (t - 1) == 48) = false) := by
              by_cases h1 : q < t
              · exact .inr ⟨h1, beq_eq_false_iff_ne.2 (fun e => hgt ⟨h1, e⟩)⟩
              · exact .inl (by omega)
            clear hgt
            rcases hcase2 with hd | ⟨hd, hd2⟩
            · subst hd
              go_wp2
              all_goals
                refine ret_trim rfl rfl (vrow_new2 _ _ _ _ _ _) ⟨?_, ((Up.refl _).alloc _).alloc _⟩
                rw [HL.out, HX.out, Hz.out (by omega)]
                try simp
                try omega
            · obtain ⟨s, rfl⟩ : ∃ s, t = s + 1 := ⟨t - 1, by omega⟩
              simp only [Nat.add_sub_cancel] at hd2
              go_wp2
              all_goals
                refine ret_trim rfl rfl (vrow_new2 _ _ _ _ _ _) ⟨?_, ((Up.refl _).alloc _).alloc _⟩
                rw [HL.out, HX.out]
                try simp
                try omega
end Go.Proofs.YtcclepohmhdpbabGreatDoor
