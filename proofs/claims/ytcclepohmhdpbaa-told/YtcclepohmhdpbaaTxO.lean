import Derived.Test.YtcclepohmhdpbaaTxF
import Derived.Test.YtcclepohmhdpbaaStr
/- THE PROGRAM's NUMBERS: taken apart. -/
namespace Go.Proofs.Ytcclepohmhdpbaa
set_option linter.all false
open Go.RowKit Go.Deep

namespace Tx
/-- What stands behind an e. -/
def expo (t : List UInt8) : Int := if at_ t 0 = 45 then - cap 60000 (t.drop (sgn true t 0)) 0 else cap 60000 (t.drop (sgn true t 0)) 0
/-- The tail: nothing, or an e and an exponent. -/
def tailV (t : List UInt8) : Int := if t = [] then 0 else expo (t.drop 1)
theorem tailV_nil : tailV [] = 0 := rfl
theorem tailV_cons (c : UInt8) (t : List UInt8) : tailV (c :: t) = expo t := rfl
theorem cap_bound (B : Int) (hB : 0 ≤ B) : ∀ (l : List UInt8) (e : Int), allDig l → 0 ≤ e → e ≤ B * 10 + 9 → 0 ≤ cap B l e ∧ cap B l e ≤ B * 10 + 9
  | [], e, _, h0, h1 => ⟨h0, h1⟩
  | c :: l, e, hd, h0, h1 => by
    rw [cap_cons]
    have hc := hd c (by simp)
    have hc : (48 : Int) ≤ (c.toNat : Int) ∧ (c.toNat : Int) ≤ 57 := by simpa [digit] using hc
    have hl : allDig l := fun x hx => hd x (by simp [hx])
    split
    · exact cap_bound B hB l _ hl (by omega) (by omega)
    · exact cap_bound B hB l _ hl h0 h1
theorem expo_bound {t : List UInt8} (h : allDig (t.drop (sgn true t 0))) : -600009 ≤ expo t ∧ expo t ≤ 600009 := by
  have := cap_bound 60000 (by omega) _ 0 h (by omega) (by omega)
  unfold expo
  split <;> omega
end Tx

theorem exponent_expo (l : List UInt8) (w : World) (hl : l.length ≤ 9223372036854775807) (hd : Tx.allDig (l.drop (Tx.sgn true l 0))) :
    Calls Try.prog 72 #[.string (bs l)] w fun e w' => e = .returned (.int .i64 (Tx.expo l)) ∧ w' = w := exponent_any l w hl hd

theorem ret_split {a : Act} {W : World} {Q : Ending → World → Prop} {b : Nat} {v0 v1 v2 : Value} (h4 : a.tmps.getD 2 undef = .pointer (some ⟨b, 0, none⟩)) (hd : a.defers = []) (hrow : VRow W b 85 [v0, v1, v2])
    (hQ : Q (.returned (.agg #[v0, v1, v2])) W) : bodyPost Try.prog Try.f69 Q .ret a W := by
  refine bodyPost_ret (v := .agg #[v0, v1, v2]) ?_ hd hQ
  rw [results_cell Try.results69, h4]
  simp only [asAddr, Sem.run_pure, Result.andThen_ok]
  exact load_number hrow

theorem vrow_new1 (w : World) (o : Obj) (v0 v1 v2 : Value) (t : TypeId) : VRow ((w.alloc (.cells #[v0, v1, v2] t)).alloc o) w.heap.size t [v0, v1, v2] := (VRow.new w [v0, v1, v2] t).alloc o

theorem vrow_new1d (w : World) (o : Obj) (v0 v1 v2 : Value) (t : TypeId) : VRow (((w.alloc (.cells #[v0, v1, v2] t)).alloc o).drew) w.heap.size t [v0, v1, v2] := vrow_new1 w o v0 v1 v2 t

set_option maxRecDepth 100000 in
set_option maxHeartbeats 4000000 in
theorem split_plain (l : List UInt8) (w : World) (n k : Nat) (R E : List UInt8) (hl : l.length ≤ 6000) (h0 : 0 < l.length) (hn : n = Tx.sgn true l 0) (hR : l.drop n = R) (hk : k = Tx.lead R) (hE : R.drop k = E) (h46 : Tx.at_ E 0 ≠ 46) (hd : Tx.allDig ((E.drop 1).drop (Tx.sgn true (E.drop 1) 0))) :
    Calls Try.prog 69 #[.string (bs l)] w fun e w' => e = .returned (.agg #[.bool (Tx.at_ l 0 == 45), .string (bs (R.take k)), .int .i64 (Tx.tailV E)]) ∧ Up w w' := by
  obtain ⟨e0, e1, e2, e3, e4, e5⟩ := bs_tells l
  obtain ⟨r0, r1, r2, r3, r4, r5⟩ := bs_tells R
  obtain ⟨x0, x1, x2, x3, x4, x5⟩ := bs_tells E
  have hs : n ≤ l.length := by have := Tx.sgn_le true l 0 (Nat.zero_le _); rw [hn]; omega
  have hkR : k ≤ R.length := by rw [hk]; exact Tx.lead_le R
  have hRl : R.length ≤ 6000 := by rw [← hR, List.length_drop]; omega
  have hEl : E.length ≤ 6000 := by rw [← hE, List.length_drop]; omega
  have HN := hide hn
  have HK := hide hk
  have HD := hide hd
  clear e3 e4 e5 r4 r5 x3 x4 x5 hn hk hd
  cases E with
  | nil =>
    go_enter Try.func69, Try.ntmps69
    go_wp2_with (first
      | (go_at_call 59; refine (signLength_any _ _ (by omega)).mono ?_; rintro e w' ⟨j, rfl, rfl, hj, hle⟩; obtain rfl : n = j := HN.out.trans hj.out.symm; clear hj hle)
      | (go_at_call 60; refine (digitsLength_let _ _ (by omega)).mono ?_; rintro e w' ⟨j, rfl, rfl, hj, hle⟩; obtain rfl : k = j := HK.out.trans hj.out.symm; clear hj hle))
    refine ret_split rfl rfl (vrow_new1 _ _ _ _ _ _) ⟨rfl, ((Up.refl _).alloc _).alloc _⟩
  | cons c t =>
    have h46' : ((c.toNat : Int) == 46) = false := beq_eq_false_iff_ne.2 (by rw [Tx.at_zero] at h46; exact h46)
    have e6 := Tx.at_zero c t
    have e7 : (bs (c :: t)).extract 1 (t.length + 1) = bs t := by simpa using x2 1
    have HD' : Hid (Tx.allDig (t.drop (Tx.sgn true t 0))) := HD.out
    have htl : t.length ≤ 6000 := by simp at hEl; omega
    have HX := hide (Tx.tailV_cons c t)
    obtain ⟨B1, B2⟩ := Tx.expo_bound HD'.out
    go_enter Try.func69, Try.ntmps69
    go_wp2_with (first
      | (go_at_call 59; refine (signLength_any _ _ (by omega)).mono ?_; rintro e w' ⟨j, rfl, rfl, hj, hle⟩; obtain rfl : n = j := HN.out.trans hj.out.symm; clear hj hle)
      | (go_at_call 60; refine (digitsLength_let _ _ (by omega)).mono ?_; rintro e w' ⟨j, rfl, rfl, hj, hle⟩; obtain rfl : k = j := HK.out.trans hj.out.symm; clear hj hle))
    go_region_with (go_at_call 72; refine (exponent_expo t _ (by omega) HD'.out).mono ?_; rintro e w' ⟨rfl, rfl⟩)
    all_goals
      have B3 : IntKind.i64.wrap (Tx.expo t) = Tx.expo t := by rw [IntKind.wrap_i64]; omega
      rw [B3]
      clear B3
      go_wp2
      refine ret_split rfl rfl (vrow_new1d _ _ _ _ _ _) ⟨by rw [HX.out], (((Up.refl _).alloc _).alloc _).drew⟩
end Go.Proofs.Ytcclepohmhdpbaa

/- THE PROGRAM's NUMBERS: taken apart, with a point. -/
namespace Go.Proofs.Ytcclepohmhdpbaa
set_option linter.all false
open Go.RowKit Go.Deep

theorem vrow_new1dd (w : World) (o : Obj) (v0 v1 v2 : Value) (t : TypeId) : VRow (((w.alloc (.cells #[v0, v1, v2] t)).alloc o).drew.drew) w.heap.size t [v0, v1, v2] := vrow_new1 w o v0 v1 v2 t

set_option maxRecDepth 100000 in
set_option maxHeartbeats 8000000 in
theorem split_point (l : List UInt8) (w : World) (n k j : Nat) (R P E : List UInt8) (hl : l.length ≤ 6000) (h0 : 0 < l.length) (hn : n = Tx.sgn true l 0) (hR : l.drop n = R) (hk : k = Tx.lead R) (hE : R.drop k = 46 :: P) (hj : j = Tx.lead P) (hP : P.drop j = E) (hd : Tx.allDig ((E.drop 1).drop (Tx.sgn true (E.drop 1) 0))) :
    Calls Try.prog 69 #[.string (bs l)] w fun e w' => e = .returned (.agg #[.bool (Tx.at_ l 0 == 45), .string (bs (R.take k ++ P.take j)), .int .i64 (-(j : Int) + Tx.tailV E)]) ∧ Up w w' := by
  obtain ⟨e0, e1, e2, e3, e4, e5⟩ := bs_tells l
  obtain ⟨r0, r1, r2, r3, r4, r5⟩ := bs_tells R
  obtain ⟨p0, p1, p2, p3, p4, p5⟩ := bs_tells P
  obtain ⟨x0, x1, x2, x3, x4, x5⟩ := bs_tells E
  obtain ⟨y0, y1, y2, y3, y4, y5⟩ := bs_tells (46 :: P)
  have hs : n ≤ l.length := by have := Tx.sgn_le true l 0 (Nat.zero_le _); rw [hn]; omega
  have hkR : k ≤ R.length := by rw [hk]; exact Tx.lead_le R
  have hjP : j ≤ P.length := by rw [hj]; exact Tx.lead_le P
  have hRl : R.length ≤ 6000 := by rw [← hR, List.length_drop]; omega
  have hPl : P.length + 1 ≤ 6000 := by have := congrArg List.length hE; simp at this; omega
  have hEl : E.length ≤ 6000 := by rw [← hP, List.length_drop]; omega
  have y6 := Tx.at_zero 46 P
  have y7 : (bs (46 :: P)).extract 1 (P.length + 1) = bs P := by simpa using y2 1
  have z1 := bs_size (R.take k)
  have z2 := bs_size (P.take j)
  have z3 := bs_append (R.take k) (P.take j)
  simp only [List.length_take] at z1 z2
  have HN := hide hn
  have HK := hide hk
  have HJ := hide hj
  have HD := hide hd
  clear e3 e4 e5 r4 r5 x3 x4 x5 p4 p5 y2 y3 y4 y5 hn hk hj hd
  go_enter Try.func69, Try.ntmps69
  go_wp2_with (first
    | (go_at_call 59; refine (signLength_any _ _ (by omega)).mono ?_; rintro e w' ⟨i, rfl, rfl, hi, hle⟩; obtain rfl : n = i := HN.out.trans hi.out.symm; clear hi hle)
    | (go_at_call 60; refine (digitsLength_let _ _ (by omega)).mono ?_; rintro e w' ⟨i, rfl, rfl, hi, hle⟩; have hi2 := hi.out; clear hi hle; first | (rw [← HK.out] at hi2; obtain rfl : k = i := hi2.symm) | (rw [← HJ.out] at hi2; obtain rfl : j = i := hi2.symm)))
  go_region_with (fail)
  cases E with
  | nil =>
    go_wp2
    refine ret_split rfl rfl (vrow_new1d _ _ _ _ _ _) ⟨by rw [Tx.tailV_nil]; simp, (((Up.refl _).alloc _).alloc _).drew⟩
  | cons c t =>
    have e7 : (bs (c :: t)).extract 1 (t.length + 1) = bs t := by simpa using x2 1
    have HD' : Hid (Tx.allDig (t.drop (Tx.sgn true t 0))) := HD.out
    have htl : t.length ≤ 6000 := by simp at hEl; omega
    have HX := hide (Tx.tailV_cons c t)
    obtain ⟨B1, B2⟩ := Tx.expo_bound HD'.out
    go_wp2_with fail
    go_region_with (go_at_call 72; refine (exponent_expo t _ (by omega) HD'.out).mono ?_; rintro e w' ⟨rfl, rfl⟩)
    all_goals
      have B3 : IntKind.i64.wrap (-(j : Int) + Tx.expo t) = -(j : Int) + Tx.expo t := by rw [IntKind.wrap_i64]; omega
      rw [B3]
      clear B3
      go_wp2
      refine ret_split rfl rfl (vrow_new1dd _ _ _ _ _ _) ⟨by rw [HX.out], (((Up.refl _).alloc _).alloc _).drew.drew⟩
end Go.Proofs.Ytcclepohmhdpbaa

/- UNITS THAT A CALL GIVES BACK. -/
namespace Go.Proofs.Ytcclepohmhdpbaa
set_option linter.all false
open Go.RowKit Go.Deep

def unitsV (neg : Bool) : Option Nat → Value
  | some k => .tuple #[.int .i64 (if neg then -(k : Int) else k), .bool true]
  | none => .tuple #[.int .i64 0, .bool false]
end Go.Proofs.Ytcclepohmhdpbaa

/- THE PROGRAM's NUMBERS: units. -/
namespace Go.Proofs.Ytcclepohmhdpbaa
set_option linter.all false
open Go.RowKit Go.Deep

namespace Tx
theorem mem_trL {l : List UInt8} {c : UInt8} (h : c ∈ trL l) : c ∈ l := (List.dropWhile_sublist z).subset h
theorem mem_trR {l : List UInt8} {c : UInt8} (h : c ∈ trR l) : c ∈ l := by
  have h' : c ∈ l.reverse.dropWhile z := by simpa [trR] using h
  simpa using (List.dropWhile_sublist z).subset h'
theorem trL_le (l : List UInt8) : (trL l).length ≤ l.length := (List.dropWhile_sublist z).length_le
theorem trR_le (l : List UInt8) : (trR l).length ≤ l.length := by
  have := (List.dropWhile_sublist (l := l.reverse) z).length_le
  simpa [trR] using this
/-- What the digits ds times ten to the p are in units. -/
def unitsOf (ds : List UInt8) (p : Int) : Option Nat := amt (trR (trL ds)) (p + (((trL ds).length : Int) - ((trR (trL ds)).length : Int)))
end Tx

theorem amt_le {l : List UInt8} {p : Int} {k : Nat} (h : Tx.amt l p = some k) : k ≤ 32768 := by
  unfold Tx.amt at h
  split at h
  · simp at h; omega
  · split at h
    · simp at h
    · split at h
      · simp at h
      · rename_i h3
        have := Option.some.inj h
        omega

set_option maxRecDepth 100000 in
set_option maxHeartbeats 4000000 in
theorem Units_any (l ds : List UInt8) (neg : Bool) (p : Int) (w : World) (hs : ∀ w, Calls Try.prog 69 #[.string (bs l)] w fun e w' => e = .returned (.agg #[.bool neg, .string (bs ds), .int .i64 p]) ∧ Up w w')
    (hd : Tx.allDig ds) (hl : ds.length ≤ 6000) (hp : -900000 ≤ p) (hp2 : p ≤ 900000) :
    Calls Try.prog 68 #[.string (bs l)] w fun e w' => e = .returned (unitsV neg (Tx.unitsOf ds p)) ∧ Up w w' := by
  have HS := hide hs
  obtain ⟨T, hT⟩ : ∃ T, T = Tx.trR (Tx.trL ds) := ⟨_, rfl⟩
  obtain ⟨q, hq⟩ : ∃ q, q = p + (((Tx.trL ds).length : Int) - ((Tx.trR (Tx.trL ds)).length : Int)) := ⟨_, rfl⟩
  have b1 := Tx.trL_le ds
  have b2 := Tx.trR_le (Tx.trL ds)
  have bT : T.length ≤ 6000 := by rw [hT]; omega
  have bq1 : -1000000 ≤ q := by rw [hq]; omega
  have bq2 : q ≤ 1000000 := by rw [hq]; omega
  have HD : Hid (Tx.allDig T) := fun c hc => hd c (Tx.mem_trL (Tx.mem_trR (hT ▸ hc)))
  have HA := hide (show Tx.unitsOf ds p = Tx.amt T q by rw [hT, hq]; rfl)
  have HT := hide hT
  have HQ := hide hq
  clear hs hd hT hq b1 b2
  obtain ⟨o, ho⟩ : ∃ o, o = Tx.amt T q := ⟨_, rfl⟩
  have HO := hide ho
  have HB := hide (fun k (h : Tx.amt T q = some k) => amt_le h)
  clear ho
  cases o with
  | none =>
    go_enter Try.func68, Try.ntmps68
    go_wp2_with (first
      | (go_at_call 69; refine (HS.out _).mono ?_; rintro e w1 ⟨rfl, u1⟩; replace u1 := hide u1)
      | (go_at_call 70; refine (trim_any neg ds p _ hl hp hp2).mono ?_; rintro e w2 ⟨rfl, u2⟩; have rr := (VRow.new w1 [.bool neg, .string (bs ds), .int .i64 p] 85); have rr := rr.of_block (u2.block _ rr.lt); have d0 := rr.cell (i := 0) rfl; have d1 := rr.cell (i := 1) rfl; have d2 := rr.cell (i := 2) rfl; have f0 := rr.frozen 0; have f1 := rr.frozen 1; have f2 := rr.frozen 2; replace rr := hide rr; replace u2 := hide u2; rw [← HQ.out, ← HT.out])
      | (go_at_call 71; refine (amountOf_any neg T q _ bT bq1 bq2 HD.out).mono ?_; rintro e w3 ⟨rfl, u3⟩; have r3 := ((rr.out.set 0 (.bool neg)).set 1 (.string (bs T))).set 2 (.int .i64 q); have r4 := r3.of_block (u3.block _ r3.lt); have d3 := r4.cell (i := 0) rfl; clear r3 r4; replace u3 := hide u3; rw [← HO.out, optV]))
    all_goals
      go_ret2
      have hsz : w.heap.size ≤ w1.heap.size := u1.out.size
      refine ⟨?_, (((((u1.out.alloc _).trans u2.out).setCell (p := ⟨w1.heap.size, 0, none⟩) hsz _).setCell (p := ⟨w1.heap.size, 1, none⟩) hsz _).setCell (p := ⟨w1.heap.size, 2, none⟩) hsz _).trans u3.out⟩
      rw [HA.out, ← HO.out]
      rfl
  | some k =>
    have hk : k ≤ 32768 := HB.out k HO.out.symm
    go_enter Try.func68, Try.ntmps68
    go_wp2_with (first
      | (go_at_call 69; refine (HS.out _).mono ?_; rintro e w1 ⟨rfl, u1⟩; replace u1 := hide u1)
      | (go_at_call 70; refine (trim_any neg ds p _ hl hp hp2).mono ?_; rintro e w2 ⟨rfl, u2⟩; have rr := (VRow.new w1 [.bool neg, .string (bs ds), .int .i64 p] 85); have rr := rr.of_block (u2.block _ rr.lt); have d0 := rr.cell (i := 0) rfl; have d1 := rr.cell (i := 1) rfl; have d2 := rr.cell (i := 2) rfl; have f0 := rr.frozen 0; have f1 := rr.frozen 1; have f2 := rr.frozen 2; replace rr := hide rr; replace u2 := hide u2; rw [← HQ.out, ← HT.out])
      | (go_at_call 71; refine (amountOf_any neg T q _ bT bq1 bq2 HD.out).mono ?_; rintro e w3 ⟨rfl, u3⟩; have r3 := ((rr.out.set 0 (.bool neg)).set 1 (.string (bs T))).set 2 (.int .i64 q); have r4 := r3.of_block (u3.block _ r3.lt); have d3 := r4.cell (i := 0) rfl; clear r3 r4; replace u3 := hide u3; rw [← HO.out, optV]))
    all_goals
      go_ret2
      have hsz : w.heap.size ≤ w1.heap.size := u1.out.size
      refine ⟨?_, (((((u1.out.alloc _).trans u2.out).setCell (p := ⟨w1.heap.size, 0, none⟩) hsz _).setCell (p := ⟨w1.heap.size, 1, none⟩) hsz _).setCell (p := ⟨w1.heap.size, 2, none⟩) hsz _).trans u3.out⟩
      rw [HA.out, ← HO.out]
      simp_all [unitsV]
end Go.Proofs.Ytcclepohmhdpbaa
