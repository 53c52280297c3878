import Derived.Test.YtcclepohmhdpbaaGreatDoorTxE
import Derived.Test.YtcclepohmhdpbaaGreatDoorWalkI
import Derived.Test.YtcclepohmhdpbaaGreatDoorTxI
import Derived.Test.YtcclepohmhdpbaaGreatDoorTxA
/- THE PROGRAM's NUMBERS: noughts taken off. -/
namespace Go.Proofs.YtcclepohmhdpbaaGreatDoor
set_option linter.all false
open Go.RowKit Go.Deep

namespace Tx
def z (c : UInt8) : Bool := c == 48
def trL (l : List UInt8) : List UInt8 := l.dropWhile z
def trR (l : List UInt8) : List UInt8 := (l.reverse.dropWhile z).reverse
theorem z_at {l : List UInt8} {i : Nat} (h : i < l.length) : z l[i] = (at_ l i == 48) := by
  rw [at_lt h, z, Bool.eq_iff_iff]
  simp only [beq_iff_eq]
  constructor
  · intro h; rw [h]; rfl
  · intro h; exact UInt8.toNat_inj.1 (by have : (48 : UInt8).toNat = 48 := rfl; omega)
theorem trL_step {l : List UInt8} {q : Nat} (hq : q < l.length) : trL (l.drop q) = if at_ l q = 48 then trL (l.drop (q + 1)) else l.drop q := by
  have := z_at hq
  by_cases h : at_ l q = 48
  · rw [if_pos h, drop_cons hq, trL, List.dropWhile_cons, this, h]; rfl
  · rw [if_neg h, drop_cons hq, trL, List.dropWhile_cons, this]
    simp [h]
theorem trR_snoc (l : List UInt8) (c : UInt8) : trR (l ++ [c]) = if z c then trR l else l ++ [c] := by
  cases h : z c <;> simp [trR, List.dropWhile_cons, h]
theorem trR_nil : trR [] = [] := rfl
theorem win_snoc {l : List UInt8} {f t : Nat} (hf : f < t) (ht : t ≤ l.length) : (l.drop f).take (t - f) = (l.drop f).take (t - 1 - f) ++ [l[t - 1]'(by omega)] := by
  have e : t - f = (t - 1 - f) + 1 := by omega
  rw [e, List.take_succ_eq_append_getElem (by simp; omega)]
  congr 2
  simp
  congr 1
  omega
theorem trR_step {l : List UInt8} {f t : Nat} (hf : f < t) (ht : t ≤ l.length) : trR ((l.drop f).take (t - f)) = if at_ l (t - 1) = 48 then trR ((l.drop f).take (t - 1 - f)) else (l.drop f).take (t - f) := by
  have := z_at (l := l) (i := t - 1) (by omega)
  rw [win_snoc hf ht, trR_snoc, this]
  by_cases h : at_ l (t - 1) = 48 <;> simp [h]
end Tx

theorem load_number {W : World} {b : Nat} {v0 v1 v2 : Value} (h : VRow W b 269 [v0, v1, v2]) : (loadVar 269 ⟨b, 0, none⟩).run Tryz.prog W = .ok (.agg #[v0, v1, v2]) W := by
  have c0 := h.cell (i := 0) (v := v0) rfl
  have c1 := h.cell (i := 1) (v := v1) rfl
  have c2 := h.cell (i := 2) (v := v2) rfl
  simp [go_sem, c0, c1, c2]

theorem vrow_new2 (w : World) (o : Obj) (v0 v1 v2 : Value) (t : TypeId) : VRow ((w.alloc o).alloc (.cells #[v0, v1, v2] t)) (w.heap.size + 1) t [v0, v1, v2] := by
  have h := VRow.new (w.alloc o) [v0, v1, v2] t
  have e : (w.alloc o).heap.size = w.heap.size + 1 := by simp
  rw [e] at h
  exact h

theorem ret_trim {a : Act} {W : World} {Q : Ending → World → Prop} {b : Nat} {v0 v1 v2 : Value} (h4 : a.tmps.getD 2 undef = .pointer (some ⟨b, 0, none⟩)) (hd : a.defers = []) (hrow : VRow W b 269 [v0, v1, v2])
    (hQ : Q (.returned (.agg #[v0, v1, v2])) W) : bodyPost Tryz.prog Tryz.f275 Q .ret a W := by
  refine bodyPost_ret (v := .agg #[v0, v1, v2]) ?_ hd hQ
  rw [results_cell Tryz.results275, h4]
  simp only [asAddr, Sem.run_pure, Result.andThen_ok]
  exact load_number hrow

set_option maxHeartbeats 4000000 in
theorem trim_any (b : Bool) (l : List UInt8) (p : Int) (w : World) (hl : l.length ≤ 6000) (hp : -900000 ≤ p) (hp2 : p ≤ 900000) :
    Calls Tryz.prog 275 #[.agg #[.bool b, .string (bs l), .int .i64 p]] w fun e w' => e = .returned (.agg #[.bool b, .string (bs (Tx.trR (Tx.trL l))), .int .i64 (p + (((Tx.trL l).length : Int) - ((Tx.trR (Tx.trL l)).length : Int)))]) ∧ Up w w' := by
  obtain ⟨e0, e1, e2, e3, e4, e5⟩ := bs_tells l
  have e7 : ∀ a b, (bs l).extract a b = bs ((l.drop a).take (b - a)) := bs_extract l
  clear e2 e3 e4 e5
  go_enter Tryz.func275, Tryz.ntmps275
  go_wp2
  go_loop [3] (fun i => ∃ q : Nat, q ≤ l.length ∧ i = .int .i64 q ∧ Hid (Tx.trL l = Tx.trL (l.drop q))) (fun i => l.length - (intOf i).toNat)
  case atStart => exact ⟨0, Nat.zero_le _, rfl, rfl⟩
  case round =>
    obtain ⟨q, hq, rfl, HQ⟩ := hrel
    by_cases hg : q < l.length ∧ Tx.at_ l q = 48
    · obtain ⟨h1, h2⟩ := hg
      have HS := hide (HQ.out.trans ((Tx.trL_step h1).trans (if_pos h2)))
      clear HQ
      go_wp2
      go_round
      case rel => exact ⟨q + 1, by omega, by go_num, HS⟩
      case measure => simp [intOf]; omega
    · have HS : Hid (Tx.trL l = l.drop q) := by
        by_cases h1 : q < l.length
        · exact HQ.out.trans ((Tx.trL_step h1).trans (if_neg (fun e => hg ⟨h1, e⟩)))
        · have := HQ.out
          rw [List.drop_of_length_le (Nat.le_of_not_lt h1)] at this ⊢
          exact this
      clear HQ
      have hcase : (q = l.length) ∨ (q < l.length ∧ (Tx.at_ l q == 48) = false) := by
        by_cases h1 : q < l.length
        · exact .inr ⟨h1, beq_eq_false_iff_ne.2 (fun e => hg ⟨h1, e⟩)⟩
        · exact .inl (by omega)
      clear hg
      rcases hcase with hc | ⟨hc, hc2⟩
      all_goals
        go_wp2
        go_loop [4] (fun i => ∃ t : Nat, q ≤ t ∧ t ≤ l.length ∧ i = .int .i64 t ∧ Hid (Tx.trR (Tx.trL l) = Tx.trR ((l.drop q).take (t - q)))) (fun i => (intOf i).toNat)
        case atStart => exact ⟨l.length, hq, Nat.le_refl _, rfl, by rw [HS.out, List.take_of_length_le (by simp)]; exact rfl⟩
        case round =>
          obtain ⟨t, hqt, ht, rfl, HT⟩ := hrel
          by_cases hgt : q < t ∧ Tx.at_ l (t - 1) = 48
          · obtain ⟨h1, h2⟩ := hgt
            have HU := hide (HT.out.trans ((Tx.trR_step h1 ht).trans (if_pos h2)))
            clear HT
            obtain ⟨s, rfl⟩ : ∃ s, t = s + 1 := ⟨t - 1, by omega⟩
            simp only [Nat.add_sub_cancel] at h2 HU
            go_wp2
            all_goals
              go_round
              case rel => exact ⟨s, by omega, by omega, by go_num, HU⟩
              case measure => simp [intOf] <;> omega
          · obtain ⟨X, hX⟩ : ∃ X, X = (l.drop q).take (t - q) := ⟨_, rfl⟩
            have HX : Hid (Tx.trR (Tx.trL l) = X) := by
              rw [hX]
              by_cases h1 : q < t
              · exact HT.out.trans ((Tx.trR_step h1 ht).trans (if_neg (fun e => hgt ⟨h1, e⟩)))
              · have e : t - q = 0 := by omega
                have := HT.out
                rw [e, List.take_zero] at this ⊢
                exact this
            have HL : Hid (p + (((Tx.trL l).length : Int) - ((Tx.trR (Tx.trL l)).length : Int)) = p + ((l.length : Int) - t)) := by
              rw [HX.out, HS.out, hX]
              simp [Hid]
              omega
            have e8 : (bs l).extract q t = bs X := by rw [hX]; exact e7 q t
            have Hz : Hid (q = t → bs X = ByteArray.empty) := by
              intro e
              rw [hX, e, Nat.sub_self, List.take_zero]
              rfl
            clear e7 hX HT
            have hcase2 : (q = t) ∨ (q < t ∧ (Tx.at_ l (t - 1) == 48) = false) := by
              by_cases h1 : q < t
              · exact .inr ⟨h1, beq_eq_false_iff_ne.2 (fun e => hgt ⟨h1, e⟩)⟩
              · exact .inl (by omega)
            clear hgt
            rcases hcase2 with hd | ⟨hd, hd2⟩
            · subst hd
              go_wp2
              all_goals
                refine ret_trim rfl rfl (vrow_new2 _ _ _ _ _ _) ⟨?_, ((Up.refl _).alloc _).alloc _⟩
                rw [HL.out, HX.out, Hz.out (by omega)]
                try simp
                try omega
            · obtain ⟨s, rfl⟩ : ∃ s, t = s + 1 := ⟨t - 1, by omega⟩
              simp only [Nat.add_sub_cancel] at hd2
              go_wp2
              all_goals
                refine ret_trim rfl rfl (vrow_new2 _ _ _ _ _ _) ⟨?_, ((Up.refl _).alloc _).alloc _⟩
                rw [HL.out, HX.out]
                try simp
                try omega
end Go.Proofs.YtcclepohmhdpbaaGreatDoor

/- THE DOCUMENT's NUMBERS, WRITTEN: their digits. -/
namespace Go.Proofs.YtcclepohmhdpbaaGreatDoor
set_option linter.all false
open Go.RowKit Go.Deep

namespace Dc
/-- The digits, four at the least. -/
def dl : Nat → Nat → Nat → List UInt8 → List UInt8
  | 0, _, _, s => s
  | f + 1, i, n, s => if i < 4 ∨ 0 < n then dl f (i + 1) (n / 10) (UInt8.ofNat (48 + n % 10) :: s) else s
def digs (k : Nat) : List UInt8 := dl 30 0 (k * 625) []
def whole (s : List UInt8) : List UInt8 := if s.take (s.length - 4) = [] then [48] else s.take (s.length - 4)
def part (s : List UInt8) : List UInt8 := if Tx.trR (s.drop (s.length - 4)) = [] then [] else 46 :: Tx.trR (s.drop (s.length - 4))
def txt (x : Int) : List UInt8 := (if x < 0 then [45] else []) ++ (whole (digs x.natAbs) ++ part (digs x.natAbs))
theorem dl_step {f i n : Nat} {s : List UInt8} (h : i < 4 ∨ 0 < n) : dl (f + 1) i n s = dl f (i + 1) (n / 10) (UInt8.ofNat (48 + n % 10) :: s) := by rw [dl, if_pos h]
theorem dl_end {f i n : Nat} {s : List UInt8} (h : ¬ (i < 4 ∨ 0 < n)) : dl (f + 1) i n s = s := by rw [dl, if_neg h]
/-- (A bound that no simp looks into.) -/
def Bd (i n : Nat) : Prop := n < 10 ^ (12 - i)
theorem Bd.step {i n : Nat} (h : Bd i n) (hi : i < 12) : Bd (i + 1) (n / 10) := by
  unfold Bd at *
  rw [show 12 - i = 12 - (i + 1) + 1 by omega, Nat.pow_succ] at h
  omega
theorem Bd.last {n : Nat} (h : Bd 12 n) : n = 0 := by unfold Bd at h; simp at h; exact h
end Dc

namespace Dc
/-- The digits of n ahead of s (none for nought). -/
def dn (n : Nat) : List UInt8 := if n = 0 then [] else Lib.decDigits n
theorem dn_step {n : Nat} (h : 0 < n) : dn n = dn (n / 10) ++ [UInt8.ofNat (48 + n % 10)] := by
  unfold dn
  rw [if_neg (by omega)]
  by_cases hs : n < 10
  · rw [Lib.decDigits, dif_pos hs, if_pos (by omega), Nat.mod_eq_of_lt hs]; rfl
  · rw [Lib.decDigits, dif_neg hs, if_neg (by omega)]
theorem dl_high : ∀ (f i n : Nat) (s : List UInt8), 4 ≤ i → n < 10 ^ f → dl (f + 1) i n s = dn n ++ s
  | f, i, n, s, hi, hn => by
    by_cases h0 : n = 0
    · subst h0
      rw [dl_end (by omega)]; rfl
    · rw [dl_step (.inr (by omega)), dn_step (by omega)]
      cases f with
      | zero => simp at hn; omega
      | succ f =>
        rw [dl_high f (i + 1) (n / 10) _ (by omega) (by rw [Nat.pow_succ] at hn; omega)]
        simp
theorem digs_eq (K : Nat) (hK : K ≤ 32768) : digs K = dn (K * 625 / 10000) ++ [UInt8.ofNat (48 + K * 625 / 1000 % 10), UInt8.ofNat (48 + K * 625 / 100 % 10), UInt8.ofNat (48 + K * 625 / 10 % 10), UInt8.ofNat (48 + K * 625 % 10)] := by
  unfold digs
  rw [dl_step (.inl (by omega)), dl_step (.inl (by omega)), dl_step (.inl (by omega)), dl_step (.inl (by omega))]
  rw [dl_high 25 _ _ _ (by omega) (by simp only [Nat.div_div_eq_div_mul]; omega)]
  simp only [Nat.div_div_eq_div_mul]
theorem txt_eq (x : Int) (h1 : -32768 ≤ x) (h2 : x ≤ 32768) : txt x = Tx.txt x := by
  unfold txt Tx.txt
  obtain ⟨K, hK⟩ : ∃ K, K = x.natAbs := ⟨_, rfl⟩
  rw [← hK, digs_eq K (by omega), List.append_assoc]
  congr 1
  have a1 : K * 625 / 10000 = K / 16 := by omega
  have b2 : K * 625 / 1000 = K % 16 * 625 / 1000 + 10 * (K / 16) := by omega
  have b3 : K * 625 / 100 = K % 16 * 625 / 100 + 10 * (10 * (K / 16)) := by omega
  have b4 : K * 625 / 10 = K % 16 * 625 / 10 + 10 * (100 * (K / 16)) := by omega
  have a2 : K * 625 / 1000 % 10 = K % 16 * 625 / 1000 % 10 := by rw [b2, Nat.add_mul_mod_self_left]
  have a3 : K * 625 / 100 % 10 = K % 16 * 625 / 100 % 10 := by rw [b3, Nat.add_mul_mod_self_left]
  have a4 : K * 625 / 10 % 10 = K % 16 * 625 / 10 % 10 := by rw [b4, Nat.add_mul_mod_self_left]
  clear b2 b3 b4
  have a5 : K * 625 % 10 = K % 16 * 625 % 10 := by omega
  rw [a1, a2, a3, a4, a5]
  have hu : K % 16 < 16 := Nat.mod_lt _ (by omega)
  generalize K % 16 = u at *
  generalize K / 16 = v at *
  congr 1
  · unfold whole
    simp only [List.length_append, List.length_cons, List.length_nil, Nat.add_sub_cancel, List.take_left']
    unfold dn
    by_cases hv : v = 0
    · subst hv
      simp [Lib.decDigits]
    · rw [if_neg hv]
      have : Lib.decDigits v ≠ [] := by
        intro e
        rw [Lib.decDigits] at e
        split at e <;> simp at e
      simp [this]
  · unfold part
    simp only [List.length_append, List.length_cons, List.length_nil, Nat.add_sub_cancel, List.drop_left']
    clear a1 a2 a3 a4 a5 hK h1 h2
    revert u
    decide
end Dc
end Go.Proofs.YtcclepohmhdpbaaGreatDoor

/- THE DOCUMENT's NUMBERS: what its units are, plainly. -/
namespace Go.Proofs.YtcclepohmhdpbaaGreatDoor
set_option linter.all false
open Go.RowKit Go.Deep

namespace Du
/-- The digits ahead of the e; where the point stands; the e and what follows. -/
def scan : List UInt8 → List Nat → Int → List Nat × Int × List UInt8
  | [], d, p => (d, p, [])
  | c :: t, d, p => if c.toNat = 101 ∨ c.toNat = 69 then (d, p, c :: t) else scan t (if Tx.digit c.toNat = true then d ++ [c.toNat - 48] else d) (if c.toNat = 46 then (d.length : Int) else p)
theorem scan_e {l : List UInt8} {i : Nat} {d : List Nat} {p : Int} (hi : i < l.length) (h : Tx.at_ l i = 101 ∨ Tx.at_ l i = 69) : scan (l.drop i) d p = (d, p, l.drop i) := by
  rw [Tx.at_lt hi] at h
  rw [Tx.drop_cons hi, scan, if_pos (by omega)]
theorem scan_step {l : List UInt8} {i : Nat} {d : List Nat} {p : Int} (hi : i < l.length) (h1 : Tx.at_ l i ≠ 101) (h2 : Tx.at_ l i ≠ 69) : scan (l.drop i) d p = scan (l.drop (i + 1)) (if Tx.digit (Tx.at_ l i) = true then d ++ [(Tx.at_ l i - 48).toNat] else d) (if Tx.at_ l i = 46 then (d.length : Int) else p) := by
  rw [Tx.at_lt hi] at h1 h2
  rw [Tx.drop_cons hi, scan, if_neg (by omega), Tx.at_lt hi]
  have e1 : ((l[i].toNat : Int) - 48).toNat = l[i].toNat - 48 := by omega
  have e2 : ((l[i].toNat : Int) = 46) = (l[i].toNat = 46) := by apply propext; omega
  rw [e1]
  simp only [e2]
theorem scan_end {l : List UInt8} {i : Nat} {d : List Nat} {p : Int} (hi : ¬ i < l.length) : scan (l.drop i) d p = (d, p, l.drop i) := by
  rw [List.drop_of_length_le (Nat.le_of_not_lt hi)]; rfl
def capD : List UInt8 → Nat → Nat
  | [], e => e
  | c :: t, e => capD t (if Tx.digit c.toNat = true ∧ e < 100000 then 10 * e + (c.toNat - 48) else e)
theorem capD_step {l : List UInt8} {i e : Nat} (hi : i < l.length) : capD (l.drop i) e = capD (l.drop (i + 1)) (if Tx.digit (Tx.at_ l i) = true ∧ e < 100000 then 10 * e + (Tx.at_ l i - 48).toNat else e) := by
  rw [Tx.drop_cons hi, capD, Tx.at_lt hi]
  have e1 : ((l[i].toNat : Int) - 48).toNat = l[i].toNat - 48 := by omega
  rw [e1]
theorem capD_end {l : List UInt8} {i e : Nat} (hi : ¬ i < l.length) : capD (l.drop i) e = e := by
  rw [List.drop_of_length_le (Nat.le_of_not_lt hi)]; rfl
/-- The digits' sum, in ten-thousandths. -/
def sumD (q : Int) : List Nat → Nat → Nat → Option Nat
  | [], _, v => some v
  | d :: t, k, v => if d = 0 then sumD q t (k + 1) v else if q - 1 - k < -4 ∨ 4 < q - 1 - k then none else sumD q t (k + 1) (v + d * 10 ^ (q - 1 - k + 4).toNat)
theorem sumD_step (q : Int) {D : List Nat} {k d : Nat} (v : Nat) (h : D[k]? = some d) : sumD q (D.drop k) k v = if d = 0 then sumD q (D.drop (k + 1)) (k + 1) v else if q - 1 - k < -4 ∨ 4 < q - 1 - k then none else sumD q (D.drop (k + 1)) (k + 1) (v + d * 10 ^ (q - 1 - k + 4).toNat) := by
  have hk := Pl.lt_of_some h
  rw [List.drop_eq_getElem_cons hk]
  have : D[k] = d := by rw [List.getElem?_eq_getElem hk] at h; exact Option.some.inj h
  rw [this, sumD]
theorem sumD_end (q : Int) {D : List Nat} {k v : Nat} (h : ¬ k < D.length) : sumD q (D.drop k) k v = some v := by
  rw [List.drop_of_length_le (Nat.le_of_not_lt h)]; rfl
def fin (v : Nat) : Option Nat := if v % 625 ≠ 0 ∨ 32768 < v / 625 then none else some (v / 625)
def place (s : List Nat × Int × List UInt8) : Int := (if s.2.1 < 0 then (s.1.length : Int) else s.2.1) + (if Tx.at_ s.2.2 1 = 45 then -(capD s.2.2 0 : Int) else (capD s.2.2 0 : Int))
def units (l : List UInt8) : Option Nat := (sumD (place (scan l [] (-1))) (scan l [] (-1)).1 0 0).bind fin
def ints (d : List Nat) : List Value := d.map fun (n : Nat) => Value.int .i64 (n : Int)
theorem ints_snoc (d : List Nat) (n : Nat) : ints (d ++ [n]) = ints d ++ [.int .i64 (n : Int)] := by simp [ints]
theorem ten_le {n m : Nat} (hn : n ≤ 9) (hm : m ≤ 8) : n * 10 ^ m ≤ 900000000 := by
  have : 10 ^ m ≤ 10 ^ 8 := Nat.pow_le_pow_right (by omega) hm
  have e : (10 : Nat) ^ 8 = 100000000 := rfl
  have := Nat.mul_le_mul hn this
  omega
theorem fin_bad {v : Nat} (h : v % 625 ≠ 0 ∨ 32768 < v / 625) : fin v = none := by unfold fin; rw [if_pos h]
theorem fin_ok {v : Nat} (h1 : v % 625 = 0) (h2 : ¬ 32768 < v / 625) : fin v = some (v / 625) := by unfold fin; rw [if_neg (by omega)]
end Du
end Go.Proofs.YtcclepohmhdpbaaGreatDoor
