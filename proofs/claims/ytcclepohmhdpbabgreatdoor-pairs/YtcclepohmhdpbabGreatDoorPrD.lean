/- Pairs: unlike(), parts. -/
import Derived.Test.YtcclepohmhdpbabGreatDoorPrC
import Derived.Test.YtcclepohmhdpbabGreatDoorDec
import Derived.Test.YtcclepohmhdpbabGreatDoorApI
namespace Go.Proofs.YtcclepohmhdpbabGreatDoor
set_option linter.all false
open Go.RowKit Go.Deep

set_option maxRecDepth 100000 in
set_option maxHeartbeats 16000000 in
theorem unlike_any (w : World) : Calls Tryz.prog 27 #[] w (Pr.UnP w) := by
  have HP := hide (Pr.post w)
  go_enter Tryz.func27, Tryz.ntmps27
  go_wp2
  go_ret
  exact Eq.mp (by kernel_rfl) HP.out

set_option maxRecDepth 100000 in
theorem pick9_any (c : Int) (h1 : -9223372036854775808 ≤ c) (h2 : c ≤ 9223372036854775807) (w : World) :
    Calls Tryz.prog 14 #[.int .i64 c, .int .i64 9] w fun e w' => ∃ i : Nat, e = .returned (.int .i64 i) ∧ i < 9 ∧ w' = w := by
  by_cases h0 : c < 0
  · have e1 : wrap64 (c + 1) = c + 1 := by unfold wrap64; omega
    have e2 : wrap64 (-(c + 1)) = -(c + 1) := by unfold wrap64; omega
    go_enter Tryz.func14, Tryz.ntmps14
    go_wp2
    go_ret
    have hx : (-((c + 1).tmod 9)) = (-(c + 1)) % 9 := by rw [← Int.neg_tmod, Int.tmod_eq_emod_of_nonneg (by omega)]
    refine ⟨((-(c + 1)) % 9).toNat, ?_, by omega, rfl⟩
    rw [Int.toNat_of_nonneg (by omega)]
    rw [← hx]; first | rfl | (rw [hx]; rfl)
  · go_enter Tryz.func14, Tryz.ntmps14
    go_wp2
    go_ret
    refine ⟨(c % 9).toNat, ?_, by omega, rfl⟩
    rw [Int.toNat_of_nonneg (by omega)]
    first | rfl | rw [Int.tmod_eq_emod_of_nonneg (by omega)]

namespace Pr
theorem fz_of {m : Mult} (hz : Sz m) (ht : Kn.turn m = true) : FZ m := by
  refine ⟨hz.len, hz.poly, fun l hl r hr => ⟨hz.ring l hl r hr, hz.cd l hl r hr, ?_⟩⟩
  unfold Kn.turn at ht
  have h1 := List.all_eq_true.1 ht l hl
  have h2 := List.all_eq_true.1 h1 r hr
  simp only [Bool.not_eq_true', beq_eq_false_iff_ne] at h2
  exact h2
/-- A valid set whose form may be asked. -/
structure Fine (M : Mult) : Prop where
  sz : Sz M
  fz : FZ M
  le : Vd.least M = 0
  fm : SzA (Vd.form M)
def Ans (l : List (List UInt8)) (w : World) (e : Ending) (w' : World) : Prop :=
  ∃ b u, e = .returned (.tuple #[.pointer (some ⟨b, 0, .none⟩), .int .i64 0]) ∧ SetR w' (.pointer (some ⟨b, 0, .none⟩)) (Wt.got (Kn.text l)) b u ∧ Up w w'
theorem fine {l : List (List UInt8)} (h : ok l = true) : (l.length ≤ 100 ∧ ∀ r ∈ l, 1 ≤ r.length ∧ r.length ≤ 1000) ∧ Fine (Wt.got (Kn.text l)) := by
  simp only [ok, Bool.and_eq_true, beq_iff_eq, decide_eq_true_eq] at h
  obtain ⟨⟨⟨⟨⟨⟨⟨h1, h2⟩, h3⟩, h4⟩, h5⟩, h6⟩, h7⟩, h8⟩ := h
  have hz := sz_of h5
  refine ⟨⟨h1, fun r hr => ?_⟩, hz, fz_of hz h7, h6, szA_of h8⟩
  have := List.all_eq_true.1 h2 r hr
  simpa using this
theorem dec {l : List (List UInt8)} (h : ok l = true) (w : World) : Calls Tryz.prog 15 #[.int .i64 0, .string (bs (Kn.text l))] w (Ans l w) := by
  simp only [ok, Bool.and_eq_true, beq_iff_eq, decide_eq_true_eq] at h
  obtain ⟨⟨⟨⟨⟨⟨⟨h1, h2⟩, h3⟩, h4⟩, h5⟩, h6⟩, h7⟩, h8⟩ := h
  have hr : ∀ w, Calls Tryz.prog 30 #[.int .i64 0, .string (bs (Kn.text l))] w (ReadPost 0 (Wt.got (Kn.text l)) w) := fun w => by
    have := read0_any (Kn.text l) w h3
    rw [h4] at this
    exact this
  refine (dec_ok 0 (Kn.text l) w (.inl rfl) h3 _ (Wt.got_ok h3).bd h5 hr).mono ?_
  rintro e w' ⟨p, b, d, rfl, hset, -, u⟩
  have hp := hset.ptr
  subst hp
  exact ⟨b, _, rfl, hset.r, u⟩
/-- A number's digits are some. -/
theorem itoa_ne (n : Int) : Lib.itoa n ≠ [] := by
  unfold Lib.itoa
  have hd : ∀ u, Lib.decDigits u ≠ [] := fun u => by
    unfold Lib.decDigits
    split <;> simp
  split
  · simp
  · exact hd _
theorem itoa_all (n : Int) : ((bs (Lib.itoa n)).toList == []) = false ∧ ((bs (Lib.itoa n)).toList != []) = true ∧ (bs (Lib.itoa n)).toList ≠ [] ∧ ((bs (Lib.itoa n)).toList == (⟨#[]⟩ : ByteArray).toList) = false ∧ (bs (Lib.itoa n)).toList.isEmpty = false := by
  have h0 : Lib.itoa n ≠ [] := itoa_ne n
  have e : (bs (Lib.itoa n)).toList = Lib.itoa n := bs_toList _
  have e0 : (⟨#[]⟩ : ByteArray).toList = [] := bs_toList []
  have h : ((bs (Lib.itoa n)).toList == []) = false := by rw [e]; exact beq_eq_false_iff_ne.2 h0
  exact ⟨h, by simp only [bne, h]; rfl, by rw [e]; exact h0, by rw [e0]; exact h, by rw [e]; cases hx : Lib.itoa n with | nil => exact absurd hx h0 | cons _ _ => rfl⟩
end Pr

set_option maxRecDepth 100000 in
set_option maxHeartbeats 4000000 in
theorem parts_any (k : Int) (h1 : -9223372036854775808 ≤ k) (h2 : k ≤ 9223372036854775807) (w : World) (ht : TabD w) :
    Calls Tryz.prog 13 #[.int .i64 k] w fun e w' => e = .returned (.bool true) ∧ Up w w' := by
  have HTb := hide ht
  clear ht
  go_enter Tryz.func13, Tryz.ntmps13
  go_wp2_with fail
  refine (unlike_any w).mono ?_
  rintro e w1 ⟨B, rfl, hl, u1⟩
  have HT := hide hl
  have HU1 := hide u1
  clear hl u1
  go_wp2_with fail
  refine (pick9_any k h1 h2 _).mono ?_
  rintro e w2 ⟨i, rfl, hi, rfl⟩
  obtain ⟨p, hp⟩ : ∃ p, Pr.tab[i]? = some p := ⟨_, List.getElem?_eq_getElem (by rw [Pr.len]; exact hi)⟩
  have Hp := hide (List.mem_of_getElem? hp)
  obtain ⟨P, va, vb, c0, c1, c2, ra, rb⟩ := HT.out i p hp
  obtain ⟨⟨ga, gb⟩, gap⟩ := Pr.all p Hp.out
  have Ga := hide ga
  have Gb := hide gb
  have Fa := hide (Pr.fine ga)
  have Fb := hide (Pr.fine gb)
  have HA : Hid (∀ w, Calls Tryz.prog 15 #[.int .i64 0, .string (bs (Kn.text p.1))] w fun e w' => ∃ b u, e = .returned (.tuple #[.pointer (some ⟨b, 0, .none⟩), .int .i64 0]) ∧ SetR w' (.pointer (some ⟨b, 0, .none⟩)) (Wt.got (Kn.text p.1)) b u ∧ Up w w') := fun w => Pr.dec ga w
  have HB : Hid (∀ w, Calls Tryz.prog 15 #[.int .i64 0, .string (bs (Kn.text p.2))] w fun e w' => ∃ b u, e = .returned (.tuple #[.pointer (some ⟨b, 0, .none⟩), .int .i64 0]) ∧ SetR w' (.pointer (some ⟨b, 0, .none⟩)) (Wt.got (Kn.text p.2)) b u ∧ Up w w') := fun w => Pr.dec gb w
  have RA := hide ra
  have RB := hide rb
  simp only [Pr.apart, Bool.and_eq_true, Option.isSome_iff_exists, Option.isNone_iff_eq_none] at gap
  obtain ⟨⟨⟨s1, e1⟩, ⟨s2, e2⟩⟩, e3⟩ := gap
  have S1 := hide e1
  have S2 := hide e2
  have S3 := hide e3
  have KTa := hide (fun w => ktext_any va p.1 w)
  have KTb := hide (fun w => ktext_any vb p.2 w)
  obtain ⟨aa, ac, rfl, -⟩ := ra
  obtain ⟨ba, bc, rfl, -⟩ := rb
  have i1 : (i : Int) < 9 := by omega
  have i2 : (0 : Int) ≤ (i : Int) := by omega
  clear e1 e2 e3 ga gb hp
  generalize hMa : Wt.got (Kn.text p.1) = Ma at *
  generalize hMb : Wt.got (Kn.text p.2) = Mb at *
  generalize Kn.text p.1 = Ta at *
  generalize Kn.text p.2 = Tb at *
  clear hMa hMb
  go_wp2_with fail
  refine (KTa.out _ RA.out Fa.out.1.1 Fa.out.1.2).mono ?_
  rintro e w3 ⟨rfl, rfl⟩
  go_wp2_with fail
  refine (KTb.out _ RB.out Fb.out.1.1 Fb.out.1.2).mono ?_
  rintro e w4 ⟨rfl, rfl⟩
  clear c0 c1 c2 RA RB KTa KTb HT
  go_wp2_with fail
  refine (HA.out _).mono ?_
  rintro e w5 ⟨b5, u5, rfl, hs5, hu5⟩
  have HU5 := hide (HU1.out.trans hu5)
  have X1 := hide hs5
  clear hs5 hu5 HA
  go_wp2_with fail
  refine (HB.out _).mono ?_
  rintro e w6 ⟨b6, u6, rfl, hs6, hu6⟩
  have HU6 := hide (HU5.out.trans hu6)
  replace X1 := hide (X1.out.up hu6)
  have X2 := hide hs6
  clear hs6 hu6 HB
  go_wp2_with fail
  refine (separate_any _ _ Ma Mb _ b5 b6 u5 u6 X1.out X2.out Fa.out.2.sz Fa.out.2.fz Fa.out.2.le Fb.out.2.sz Fb.out.2.fz Fb.out.2.le Fa.out.2.fm Fb.out.2.fm (HTb.out.up HU6.out)).mono ?_
  rintro e w7 ⟨rfl, hu7⟩
  have HU7 := hide (HU6.out.trans hu7)
  replace X1 := hide (X1.out.up hu7)
  replace X2 := hide (X2.out.up hu7)
  rw [S1.out]
  simp only [sepV]
  clear hu7
  obtain ⟨n1, n1b, n1c, n1d, n1e⟩ := Pr.itoa_all s1.1.1
  obtain ⟨n2, n2b, n2c, n2d, n2e⟩ := Pr.itoa_all s1.1.2
  obtain ⟨n3, n3b, n3c, n3d, n3e⟩ := Pr.itoa_all s1.2
  generalize bs (Lib.itoa s1.1.1) = t1 at *
  generalize bs (Lib.itoa s1.1.2) = t2 at *
  generalize bs (Lib.itoa s1.2) = t3 at *
  go_wp2_with fail
  refine (separate_any _ _ Mb Ma _ b6 b5 u6 u5 X2.out X1.out Fb.out.2.sz Fb.out.2.fz Fb.out.2.le Fa.out.2.sz Fa.out.2.fz Fa.out.2.le Fb.out.2.fm Fa.out.2.fm (HTb.out.up HU7.out)).mono ?_
  rintro e w8 ⟨rfl, hu8⟩
  have HU8 := hide (HU7.out.trans hu8)
  replace X1 := hide (X1.out.up hu8)
  rw [S2.out]
  simp only [sepV]
  clear hu8
  obtain ⟨n4, n4b, n4c, n4d, n4e⟩ := Pr.itoa_all s2.1.1
  obtain ⟨n5, n5b, n5c, n5d, n5e⟩ := Pr.itoa_all s2.1.2
  obtain ⟨n6, n6b, n6c, n6d, n6e⟩ := Pr.itoa_all s2.2
  generalize bs (Lib.itoa s2.1.1) = t4 at *
  generalize bs (Lib.itoa s2.1.2) = t5 at *
  generalize bs (Lib.itoa s2.2) = t6 at *
  go_wp2_with fail
  refine (separate_any _ _ Ma Ma _ b5 b5 u5 u5 X1.out X1.out Fa.out.2.sz Fa.out.2.fz Fa.out.2.le Fa.out.2.sz Fa.out.2.fz Fa.out.2.le Fa.out.2.fm Fa.out.2.fm (HTb.out.up HU8.out)).mono ?_
  rintro e w9 ⟨rfl, hu9⟩
  have HU9 := hide (HU8.out.trans hu9)
  rw [S3.out]
  simp only [sepV]
  clear hu9
  go_wp2
  go_ret
  exact ⟨rfl, HU9.out⟩
end Go.Proofs.YtcclepohmhdpbabGreatDoor
