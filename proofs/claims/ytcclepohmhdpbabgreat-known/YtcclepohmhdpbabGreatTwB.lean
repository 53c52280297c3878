/- THE PROGRAM's READER OF TEXTS: coordinates. -/
import Derived.Test.YtcclepohmhdpbabGreatTwA
namespace Go.Proofs.YtcclepohmhdpbabGreat
set_option linter.all false
open Go.RowKit Go.Deep

set_option maxHeartbeats 4000000 in
theorem split_nil (w : World) :
    Calls Tryz.prog 115 #[.string (bs [])] w fun e w' => e = .returned (.agg #[.bool false, .string (bs []), .int .i64 0]) ∧ Up w w' := by
  obtain ⟨e0, e1, e2, e3, e4, e5⟩ := bs_tells []
  clear e1 e4 e5
  go_enter Tryz.func115, Tryz.ntmps115
  go_wp2_with (first
    | (go_at_call 104; refine (signLength_any [] _ (by simp)).mono ?_; rintro e w' ⟨j, rfl, rfl, hj, hle⟩; obtain rfl : j = 0 := hj.out.trans rfl; clear hj hle)
    | (go_at_call 105; refine (digitsLength_let [] _ (by simp)).mono ?_; rintro e w' ⟨j, rfl, rfl, hj, hle⟩; obtain rfl : j = 0 := hj.out.trans rfl; clear hj hle))
  refine ret_split rfl rfl (vrow_new1 _ _ _ _ _ _) ⟨rfl, ((Up.refl _).alloc _).alloc _⟩

theorem unitsNil (w : World) :
    Calls Tryz.prog 114 #[.string (bs [])] w fun e w' => e = .returned (.tuple #[.int .i64 0, .bool true]) ∧ Up w w' :=
  Units_any [] [] false 0 w (fun w => split_nil w) (fun c hc => by cases hc) (by simp) (by omega) (by omega)

def PCooPost (l : List UInt8) (bad off : Bool) (rb : Nat) (w : World) (e : Ending) (w' : World) : Prop :=
  ∃ (x : Int) (l' : List UInt8) (bad' off' : Bool), e = .returned (.int .i64 x) ∧ RT w' rb l' bad' off' ∧ Fr (· = rb) w w' ∧ (if bad = true then none else Wt.coord true l off) = (if bad' = true then none else some (x, l', off')) ∧ l'.length ≤ l.length

set_option maxRecDepth 100000 in
set_option maxHeartbeats 2000000 in
theorem pnumber_any (l : List UInt8) (hb : Tx.bare l = l) (bad off : Bool) (rb : Nat) (w : World) (hr : RT w rb l bad off) (hl : l.length ≤ 6000) :
    Calls Tryz.prog 111 #[.pointer (some ⟨rb, 0, none⟩)] w (PCooPost l bad off rb w) := by
  obtain ⟨n, hn⟩ : ∃ n, n = Tx.num true l := ⟨_, rfl⟩
  have hnl : n ≤ l.length := by rw [hn]; exact Tx.num_le true l
  have HN := hide hn
  have HBB := hide hb
  have c0 := hr.c0
  have HR := hide hr
  clear hn hr hb
  have hcoo : ∀ (w : World), RT w rb l bad off → Calls Tryz.prog 113 #[.pointer (some ⟨rb, 0, none⟩), .int .i64 n] w (PCooPost l bad off rb w) := by
    intro w hr
    have HR := hide hr
    clear hr
    by_cases h0 : n = 0
    · subst h0
      have HE := hide (Wt.coord_none (p := true) (l := l) (o := off) (by rw [HBB.out, ← HN.out]))
      go_enter Tryz.func113, Tryz.ntmps113
      go_wp2_with fail
      refine (number_bad l bad off rb _ HR.out).mono ?_
      rintro e w1 ⟨rfl, h1, u1⟩
      replace h1 := hide h1
      replace u1 := hide u1
      go_wp2_with fail
      refine (unitsNil _).mono ?_
      rintro e w2 ⟨rfl, u2⟩
      replace u2 := hide u2
      go_wp2
      go_ret
      exact ⟨0, l, true, off, rfl, VRow.of_block h1.out (u2.out.block _ (VRow.lt h1.out)), u1.out.trans (Fr.of_up u2.out), by cases bad <;> simp [HE.out], Nat.le_refl _⟩
    · have HE := hide (Wt.coord_some (p := true) (l := l) (o := off) (by rw [HBB.out, ← HN.out]; exact h0))
      rw [HBB.out, ← HN.out] at HE
      have HSh : Hid (Du.Shape (l.take n)) := by
        rw [HN.out]
        exact Du.num_shape (by rw [← HN.out]; omega)
      have hsl : (l.take n).length ≤ 6000 := by rw [List.length_take]; omega
      have HUV := hide (Wt.unitsV_eq (l.take n))
      obtain ⟨x, hx⟩ : ∃ x, x = Wt.cv (l.take n) := ⟨_, rfl⟩
      obtain ⟨ok, hok⟩ : ∃ ok, ok = (Du.units (l.take n)).isNone := ⟨_, rfl⟩
      rw [← hx, ← hok] at HUV HE
      have hpos : 0 < n := by omega
      clear hx hok h0
      cases ok
      · go_enter Tryz.func113, Tryz.ntmps113
        go_wp2_with fail
        refine (number_ok l n bad off rb _ HR.out hl hpos hnl).mono ?_
        rintro e w1 ⟨rfl, h1, u1⟩
        replace h1 := hide h1
        replace u1 := hide u1
        go_wp2_with fail
        refine (pUnits_any _ HSh.out hsl _).mono ?_
        rintro e w2 ⟨rfl, u2⟩
        rw [HUV.out]
        replace u2 := hide u2
        go_wp2
        go_ret
        exact ⟨x, l.drop n, bad, off, rfl, VRow.of_block h1.out (u2.out.block _ (VRow.lt h1.out)), u1.out.trans (Fr.of_up u2.out), by cases bad <;> simp [HE.out], by simp⟩
      · go_enter Tryz.func113, Tryz.ntmps113
        go_wp2_with fail
        refine (number_ok l n bad off rb _ HR.out hl hpos hnl).mono ?_
        rintro e w1 ⟨rfl, h1, u1⟩
        replace h1 := hide h1
        replace u1 := hide u1
        go_wp2_with fail
        refine (pUnits_any _ HSh.out hsl _).mono ?_
        rintro e w2 ⟨rfl, u2⟩
        rw [HUV.out]
        have h2 : RT w2 rb (l.drop n) bad off := VRow.of_block h1.out (u2.block _ (VRow.lt h1.out))
        obtain ⟨-, -, d2, -, -, g2⟩ := h2.facts
        replace h2 := hide h2
        replace u2 := hide u2
        go_wp2
        go_ret
        exact ⟨x, l.drop n, bad, true, rfl, h2.out.off true, (u1.out.trans (Fr.of_up u2.out)).setCell (p := ⟨rb, 2, none⟩) rfl _, by cases bad <;> simp [HE.out], by simp⟩
  have HCoo := hide hcoo
  clear hcoo
  go_enter Tryz.func111, Tryz.ntmps111
  go_wp2_with fail
  refine (Length_any l _ (by omega)).mono ?_
  rintro e w1 ⟨rfl, hw⟩
  replace hw := hw.symm
  subst hw
  rw [← HN.out]
  go_wp2_with fail
  refine (HCoo.out _ HR.out).mono ?_
  rintro e w2 ⟨x, l', b', o', rfl, h⟩
  replace h := hide h
  go_wp2
  go_ret
  exact ⟨x, l', b', o', rfl, h.out⟩
end Go.Proofs.YtcclepohmhdpbabGreat
