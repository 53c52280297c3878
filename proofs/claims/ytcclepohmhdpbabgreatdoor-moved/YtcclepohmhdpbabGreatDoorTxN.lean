import Derived.Test.YtcclepohmhdpbabGreatDoorTxM
namespace Go.Proofs.YtcclepohmhdpbabGreatDoor
set_option linter.all false
open Go.RowKit Go.Deep
theorem vrow_new1dd (w : World) (o : Obj) (v0 v1 v2 : Value) (t : TypeId) : VRow (((w.alloc (.cells #[v0, v1, v2] t)).alloc o).drew.drew) w.heap.size t [v0, v1, v2] := vrow_new1 w o v0 v1 v2 t
set_option maxRecDepth 100000 in
set_option maxHeartbeats 8000000 in
theorem split_point (l : List UInt8) (w : World) (n k j : Nat) (R P E : List UInt8) (hl : l.length ≤ 6000) (h0 : 0 < l.length) (hn : n = Tx.sgn true l 0) (hR : l.drop n = R) (hk : k = Tx.lead R) (hE : R.drop k = 46 :: P) (hj : j = Tx.lead P) (hP : P.drop j = E) (hd : Tx.allDig ((E.drop 1).drop (Tx.sgn true (E.drop 1) 0))) :
    Calls Tryz.prog 165 #[.string (bs l)] w fun e w' => e = .returned (.agg #[.bool (Tx.at_ l 0 == 45), .string (bs (R.take k ++ P.take j)), .int .i64 (-(j : Int) + Tx.tailV E)]) ∧ Up w w' := by
  obtain ⟨e0, e1, e2, e3, e4, e5⟩ := bs_tells l
  obtain ⟨r0, r1, r2, r3, r4, r5⟩ := bs_tells R
  obtain ⟨p0, p1, p2, p3, p4, p5⟩ := bs_tells P
  obtain ⟨x0, x1, x2, x3, x4, x5⟩ := bs_tells E
  obtain ⟨y0, y1, y2, y3, y4, y5⟩ := bs_tells (46 :: P)
  have hs : n ≤ l.length := by have := Tx.sgn_le true l 0 (Nat.zero_le _); rw [hn]; omega
  have hkR : k ≤ R.length := by rw [hk]; exact Tx.lead_le R
  have hjP : j ≤ P.length := by rw [hj]; exact Tx.lead_le P
  have hRl : R.length ≤ 6000 := by rw [← hR, List.length_drop]; omega
  have hPl : P.length + 1 ≤ 6000 := by have := congrArg List.length hE; simp at this; omega
  have hEl : E.length ≤ 6000 := by rw [← hP, List.length_drop]; omega
  have y6 := Tx.at_zero 46 P
  have y7 : (bs (46 :: P)).extract 1 (P.length + 1) = bs P := by simpa using y2 1
  have z1 := bs_size (R.take k)
  have z2 := bs_size (P.take j)
  have z3 := bs_append (R.take k) (P.take j)
  simp only [List.length_take] at z1 z2
  have HN := hide hn
  have HK := hide hk
  have HJ := hide hj
  have HD := hide hd
  clear e3 e4 e5 r4 r5 x3 x4 x5 p4 p5 y2 y3 y4 y5 hn hk hj hd
  go_enter Tryz.func165, Tryz.ntmps165
  go_wp2_with (first
    | (go_at_call 155; refine (signLength_any _ _ (by omega)).mono ?_; rintro e w' ⟨i, rfl, rfl, hi, hle⟩; obtain rfl : n = i := HN.out.trans hi.out.symm; clear hi hle)
    | (go_at_call 156; refine (digitsLength_let _ _ (by omega)).mono ?_; rintro e w' ⟨i, rfl, rfl, hi, hle⟩; have hi2 := hi.out; clear hi hle; first | (rw [← HK.out] at hi2; obtain rfl : k = i := hi2.symm) | (rw [← HJ.out] at hi2; obtain rfl : j = i := hi2.symm)))
  go_region_with (fail)
  cases E with
  | nil =>
    go_wp2
    refine ret_split rfl rfl (vrow_new1d _ _ _ _ _ _) ⟨by rw [Tx.tailV_nil]; simp, (((Up.refl _).alloc _).alloc _).drew⟩
  | cons c t =>
    have e7 : (bs (c :: t)).extract 1 (t.length + 1) = bs t := by simpa using x2 1
    have HD' : Hid (Tx.allDig (t.drop (Tx.sgn true t 0))) := HD.out
    have htl : t.length ≤ 6000 := by simp at hEl; omega
    have HX := hide (Tx.tailV_cons c t)
    obtain ⟨B1, B2⟩ := Tx.expo_bound HD'.out
    go_wp2_with fail
    go_region_with (go_at_call 168; refine (exponent_expo t _ (by omega) HD'.out).mono ?_; rintro e w' ⟨rfl, rfl⟩)
    all_goals
      have B3 : IntKind.i64.wrap (-(j : Int) + Tx.expo t) = -(j : Int) + Tx.expo t := by rw [IntKind.wrap_i64]; omega
      rw [B3]
      clear B3
      go_wp2
      refine ret_split rfl rfl (vrow_new1dd _ _ _ _ _ _) ⟨by rw [HX.out], (((Up.refl _).alloc _).alloc _).drew.drew⟩
end Go.Proofs.YtcclepohmhdpbabGreatDoor
