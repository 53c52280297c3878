import Derived.Test.YtcclepohmhdpbabGreatDoorTxF
namespace Go.Proofs.YtcclepohmhdpbabGreatDoor
set_option linter.all false
open Go.RowKit Go.Deep
namespace Tx
def expo (t : List UInt8) : Int := if at_ t 0 = 45 then - cap 60000 (t.drop (sgn true t 0)) 0 else cap 60000 (t.drop (sgn true t 0)) 0
def tailV (t : List UInt8) : Int := if t = [] then 0 else expo (t.drop 1)
theorem tailV_nil : tailV [] = 0 := rfl
theorem tailV_cons (c : UInt8) (t : List UInt8) : tailV (c :: t) = expo t := rfl
theorem cap_bound (B : Int) (hB : 0 ≤ B) : ∀ (l : List UInt8) (e : Int), allDig l → 0 ≤ e → e ≤ B * 10 + 9 → 0 ≤ cap B l e ∧ cap B l e ≤ B * 10 + 9
  | [], e, _, h0, h1 => ⟨h0, h1⟩
  | c :: l, e, hd, h0, h1 => by
    rw [cap_cons]
    have hc := hd c (by simp)
    have hc : (48 : Int) ≤ (c.toNat : Int) ∧ (c.toNat : Int) ≤ 57 := by simpa [digit] using hc
    have hl : allDig l := fun x hx => hd x (by simp [hx])
    split
    · exact cap_bound B hB l _ hl (by omega) (by omega)
    · exact cap_bound B hB l _ hl h0 h1
theorem expo_bound {t : List UInt8} (h : allDig (t.drop (sgn true t 0))) : -600009 ≤ expo t ∧ expo t ≤ 600009 := by
 have := cap_bound 60000 (by omega) _ 0 h (by omega) (by omega)
 unfold expo
 split <;> omega
end Tx
theorem exponent_expo (l : List UInt8) (w : World) (hl : l.length ≤ 9223372036854775807) (hd : Tx.allDig (l.drop (Tx.sgn true l 0))) :
  Calls Tryz.prog 168 #[.string (bs l)] w fun e w' => e = .returned (.int .i64 (Tx.expo l)) ∧ w' = w := exponent_any l w hl hd
theorem ret_split {a : Act} {W : World} {Q : Ending → World → Prop} {b : Nat} {v0 v1 v2 : Value} (h4 : a.tmps.getD 2 undef = .pointer (some ⟨b, 0, none⟩)) (hd : a.defers = []) (hrow : VRow W b 179 [v0, v1, v2])
  (hQ : Q (.returned (.agg #[v0, v1, v2])) W) : bodyPost Tryz.prog Tryz.f165 Q .ret a W := by
 refine bodyPost_ret (v := .agg #[v0, v1, v2]) ?_ hd hQ
 rw [results_cell Tryz.results165, h4]
 simp only [asAddr, Sem.run_pure, Result.andThen_ok]
 exact load_number hrow
theorem vrow_new1 (w : World) (o : Obj) (v0 v1 v2 : Value) (t : TypeId) : VRow ((w.alloc (.cells #[v0, v1, v2] t)).alloc o) w.heap.size t [v0, v1, v2] := (VRow.new w [v0, v1, v2] t).alloc o
theorem vrow_new1d (w : World) (o : Obj) (v0 v1 v2 : Value) (t : TypeId) : VRow (((w.alloc (.cells #[v0, v1, v2] t)).alloc o).drew) w.heap.size t [v0, v1, v2] := vrow_new1 w o v0 v1 v2 t
set_option maxRecDepth 100000 in
set_option maxHeartbeats 4000000 in
theorem split_plain (l : List UInt8) (w : World) (n k : Nat) (R E : List UInt8) (hl : l.length ≤ 6000) (h0 : 0 < l.length) (hn : n = Tx.sgn true l 0) (hR : l.drop n = R) (hk : k = Tx.lead R) (hE : R.drop k = E) (h46 : Tx.at_ E 0 ≠ 46) (hd : Tx.allDig ((E.drop 1).drop (Tx.sgn true (E.drop 1) 0))) :
    Calls Tryz.prog 165 #[.string (bs l)] w fun e w' => e = .returned (.agg #[.bool (Tx.at_ l 0 == 45), .string (bs (R.take k)), .int .i64 (Tx.tailV E)]) ∧ Up w w' := by
  obtain ⟨e0, e1, e2, e3, e4, e5⟩ := bs_tells l
  obtain ⟨r0, r1, r2, r3, r4, r5⟩ := bs_tells R
  obtain ⟨x0, x1, x2, x3, x4, x5⟩ := bs_tells E
  have hs : n ≤ l.length := by have := Tx.sgn_le true l 0 (Nat.zero_le _); rw [hn]; omega
  have hkR : k ≤ R.length := by rw [hk]; exact Tx.lead_le R
  have hRl : R.length ≤ 6000 := by rw [← hR, List.length_drop]; omega
  have hEl : E.length ≤ 6000 := by rw [← hE, List.length_drop]; omega
  have HN := hide hn
  have HK := hide hk
  have HD := hide hd
  clear e3 e4 e5 r4 r5 x3 x4 x5 hn hk hd
  cases E with
  | nil =>
    go_enter Tryz.func165, Tryz.ntmps165
    go_wp2_with (first
      | (go_at_call 155; refine (signLength_any _ _ (by omega)).mono ?_; rintro e w' ⟨j, rfl, rfl, hj, hle⟩; obtain rfl : n = j := HN.out.trans hj.out.symm; clear hj hle)
      | (go_at_call 156; refine (digitsLength_let _ _ (by omega)).mono ?_; rintro e w' ⟨j, rfl, rfl, hj, hle⟩; obtain rfl : k = j := HK.out.trans hj.out.symm; clear hj hle))
    refine ret_split rfl rfl (vrow_new1 _ _ _ _ _ _) ⟨rfl, ((Up.refl _).alloc _).alloc _⟩
  | cons c t =>
    have h46' : ((c.toNat : Int) == 46) = false := beq_eq_false_iff_ne.2 (by rw [Tx.at_zero] at h46; exact h46)
    have e6 := Tx.at_zero c t
    have e7 : (bs (c :: t)).extract 1 (t.length + 1) = bs t := by simpa using x2 1
    have HD' : Hid (Tx.allDig (t.drop (Tx.sgn true t 0))) := HD.out
    have htl : t.length ≤ 6000 := by simp at hEl; omega
    have HX := hide (Tx.tailV_cons c t)
    obtain ⟨B1, B2⟩ := Tx.expo_bound HD'.out
    go_enter Tryz.func165, Tryz.ntmps165
    go_wp2_with (first
      | (go_at_call 155; refine (signLength_any _ _ (by omega)).mono ?_; rintro e w' ⟨j, rfl, rfl, hj, hle⟩; obtain rfl : n = j := HN.out.trans hj.out.symm; clear hj hle)
      | (go_at_call 156; refine (digitsLength_let _ _ (by omega)).mono ?_; rintro e w' ⟨j, rfl, rfl, hj, hle⟩; obtain rfl : k = j := HK.out.trans hj.out.symm; clear hj hle))
    go_region_with (go_at_call 168; refine (exponent_expo t _ (by omega) HD'.out).mono ?_; rintro e w' ⟨rfl, rfl⟩)
    all_goals
      have B3 : IntKind.i64.wrap (Tx.expo t) = Tx.expo t := by rw [IntKind.wrap_i64]; omega
      rw [B3]
      clear B3
      go_wp2
      refine ret_split rfl rfl (vrow_new1d _ _ _ _ _ _) ⟨by rw [HX.out], (((Up.refl _).alloc _).alloc _).drew⟩
end Go.Proofs.YtcclepohmhdpbabGreatDoor
