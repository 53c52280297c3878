/- THE WALKS: Has; the law's has. -/
import Derived.Test.YtcclepohmhdpbabHsA
namespace Go.Proofs.Ytcclepohmhdpbab
set_option linter.all false
open Go.RowKit Go.Deep

def goodH (a b d : Int) : Prop := partB a = true ∧ partB b = true ∧ partB d = true ∧ 1 ≤ d
set_option maxRecDepth 8000 in
set_option maxHeartbeats 4000000 in
theorem has_bad (v : Value) (a b d : Int) (w : World) (h : ¬ goodH a b d) :
    Calls Try.prog 7 #[v, .int .i64 a, .int .i64 b, .int .i64 d] w fun e w' => e = .returned (.tuple #[.bool false, .int .i64 1]) ∧ Up w w' := by
  cases ha : partB a
  · have HA := hide ha
    clear ha h
    go_enter Try.func7, Try.ntmps7
    go_wp2_with (go_at_call 10; refine (isPart_any _ _).mono ?_; rintro e w1 ⟨rfl, rfl⟩; rw [HA.out])
    go_ret2
    exact ⟨rfl, Up.refl _⟩
  · cases hb : partB b
    · have HA := hide ha
      have HB := hide hb
      clear ha hb h
      go_enter Try.func7, Try.ntmps7
      go_wp2_with (go_at_call 10; refine (isPart_any _ _).mono ?_; rintro e w1 ⟨rfl, rfl⟩; (first | rw [HA.out] | rw [HB.out]))
      go_ret2
      exact ⟨rfl, Up.refl _⟩
    · cases hd : partB d
      · have HA := hide ha
        have HB := hide hb
        have HD := hide hd
        clear ha hb hd h
        go_enter Try.func7, Try.ntmps7
        go_wp2_with (go_at_call 10; refine (isPart_any _ _).mono ?_; rintro e w1 ⟨rfl, rfl⟩; (first | rw [HA.out] | rw [HB.out] | rw [HD.out]))
        go_ret2
        exact ⟨rfl, Up.refl _⟩
      · have h1 : d < 1 := by
          rcases Int.lt_or_le d 1 with k | k
          · exact k
          · exact absurd ⟨ha, hb, hd, k⟩ h
        have HA := hide ha
        have HB := hide hb
        have HD := hide hd
        clear ha hb hd h
        go_enter Try.func7, Try.ntmps7
        go_wp2_with (go_at_call 10; refine (isPart_any _ _).mono ?_; rintro e w1 ⟨rfl, rfl⟩; (first | rw [HA.out] | rw [HB.out] | rw [HD.out]))
        go_ret2
        exact ⟨rfl, Up.refl _⟩
set_option maxRecDepth 8000 in
set_option maxHeartbeats 4000000 in
theorem has_invalid (v : Value) (m : Mult) (a b d : Int) (w : World) (g : Nat) (u : Value) (hs : SetR w v m g u) (hz : Sz m) (h : goodH a b d) (hv : Vd.least m ≠ 0) :
    Calls Try.prog 7 #[v, .int .i64 a, .int .i64 b, .int .i64 d] w fun e w' => e = .returned (.tuple #[.bool false, .int .i64 7]) ∧ Up w w' := by
  have HK := hide (isValid_is (decide_eq_false hv) hs hz)
  obtain ⟨ha, hb, hd, h1⟩ := h
  have HA := hide ha
  have HB := hide hb
  have HD := hide hd
  have h1' : ¬ d < 1 := by omega
  obtain ⟨rfl, -, -⟩ := hs
  clear ha hb hd h1 hz hv
  go_enter Try.func7, Try.ntmps7
  go_wp2_with (first | (go_at_call 10; refine (isPart_any _ _).mono ?_; rintro e w1 ⟨rfl, rfl⟩; (first | rw [HA.out] | rw [HB.out] | rw [HD.out])) | (go_at_call 11; refine HK.out.mono ?_; rintro e w2 ⟨rfl, hu⟩; replace hu := hide hu))
  go_ret2
  exact ⟨rfl, hu.out⟩
set_option maxRecDepth 8000 in
set_option maxHeartbeats 4000000 in
theorem has_ok (v : Value) (m : Mult) (a b d : Int) (w : World) (g : Nat) (u : Value) (hs : SetR w v m g u) (hz : Sz m) (h : goodH a b d) (hv : Vd.least m = 0) :
    Calls Try.prog 7 #[v, .int .i64 a, .int .i64 b, .int .i64 d] w fun e w' => e = .returned (.tuple #[.bool (Vd.inSet m ((a, b), d)), .int .i64 0]) ∧ Up w w' := by
  have HK := hide (isValid_is (decide_eq_true hv) hs hz)
  have HS := hide hs
  have HZ := hide hz
  have hsp : Hid (Vd.Sp ((a, b), d)) := by
    obtain ⟨ha, hb, hd, h1⟩ := h
    unfold partB at ha hb hd
    simp only [Bool.and_eq_true, decide_eq_true_eq] at ha hb hd
    show Vd.Sp _
    unfold Vd.Sp
    simp only
    omega
  obtain ⟨ha, hb, hd, h1⟩ := h
  have HA := hide ha
  have HB := hide hb
  have HD := hide hd
  have h1' : ¬ d < 1 := by omega
  obtain ⟨rfl, -, -⟩ := hs
  obtain ⟨ua, uc, rfl, -⟩ := HS.out.rd
  clear ha hb hd h1 hz hv
  go_enter Try.func7, Try.ntmps7
  go_wp2_with (first | (go_at_call 10; refine (isPart_any _ _).mono ?_; rintro e w1 ⟨rfl, rfl⟩; (first | rw [HA.out] | rw [HB.out] | rw [HD.out])) | (go_at_call 11; refine HK.out.mono ?_; rintro e w2 ⟨rfl, hu⟩; replace hu := hide hu))
  have HU2 : Hid (Up w1 (w2.alloc (.cells #[.int .i64 a, .int .i64 b, .int .i64 d] 42))) := hu.out.alloc _
  have R0 := hide (new_row (w := w2) (o := .cells #[.int .i64 a, .int .i64 b, .int .i64 d] 42) (vs := [.int .i64 a, .int .i64 b, .int .i64 d]) rfl)
  have s0 := ((HS.out.up HU2.out).cell).gr (i := 0) rfl
  have q0 := R0.out.gr (i := 0) rfl
  have q1 := R0.out.gr (i := 1) rfl
  have q2 := R0.out.gr (i := 2) rfl
  have HC : Hid (∀ g : Gr (w2.alloc (.cells #[.int .i64 a, .int .i64 b, .int .i64 d] 42)), Calls Try.prog 12 #[.slice ua m.length uc, .agg #[.int .i64 a, .int .i64 b, .int .i64 d]] g.v fun e w' => e = .returned (.bool (Vd.inSet m ((a, b), d))) ∧ Up g.v w') := fun g =>
    inSet_any _ m ((a, b), d) _ ((HS.out.rd.up HU2.out).up g.up) HZ.out hsp.out
  obtain ⟨X, hX⟩ : ∃ X, Vd.inSet m ((a, b), d) = X := ⟨_, rfl⟩
  rw [hX] at HC
  have HX := hide hX
  clear hX
  refine wp_region_up (by kernel_rfl) (by kernel_rfl) ?_
  repeat (first | go_big_quiet_step ((go_at_call 12; exact Calls.up_of (HC.out _))))
  refine wpQuiet_nil ?_
  rintro w3 ⟨⟨_, u3⟩, rfl⟩
  have HU3 := hide (HU2.out.trans u3)
  clear u3 s0 q0 q1 q2 HC
  go_wp2
  go_ret2
  refine ⟨?_, HU3.out⟩
  rw [HX.out]
  rfl
end Go.Proofs.Ytcclepohmhdpbab
