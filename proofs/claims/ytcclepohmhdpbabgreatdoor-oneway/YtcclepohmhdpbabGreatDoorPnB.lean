import Derived.Test.YtcclepohmhdpbabGreatDoorPnA
import Derived.Test.YtcclepohmhdpbabGreatDoorPnG
namespace Go.Proofs.YtcclepohmhdpbabGreatDoor
set_option linter.all false
open Go.RowKit Go.Deep
set_option maxHeartbeats 1000000 in
theorem between_any (e m o : Int) (w : World) : Calls Tryz.prog 132 #[.int .i64 e, .int .i64 m, .int .i64 o] w fun x w' => x = .returned (.bool (decide (Vd.btw e m o))) ∧ w' = w := by
 unfold Vd.btw
 by_cases h1 : e ≤ m <;> by_cases h2 : m ≤ o <;> by_cases h3 : o ≤ m <;> by_cases h4 : m ≤ e
 all_goals
  go_enter Tryz.func132, Tryz.ntmps132
  go_wp2
  go_ret
  exact ⟨ret_b (by first | exact (decide_eq_true (by omega)).symm | exact (decide_eq_false (by omega)).symm | (simp <;> omega)), rfl⟩
theorem hasB_of (s : Vd.Seg) (p : Vd.Spot) : Vd.hasB s p = (decide (Vd.side s p = 0) && (decide (Vd.btw (s.1.1 * p.2) p.1.1 (s.2.1 * p.2)) && decide (Vd.btw (s.1.2 * p.2) p.1.2 (s.2.2 * p.2)))) := by
 unfold Vd.hasB Vd.has Vd.side
 by_cases h : Vd.cr s.1 s.2 p.1 p.2 = 0
 ·have : Vd.sg (Vd.cr s.1 s.2 p.1 p.2) = 0 := (Vd.sg_zero _).2 h
  simp [h, this]
  exact fun _ _ => rfl
 ·have : ¬ Vd.sg (Vd.cr s.1 s.2 p.1 p.2) = 0 := fun e => h ((Vd.sg_zero _).1 e)
  simp [h, this]
set_option maxHeartbeats 2000000 in
theorem has_any (s : Vd.Seg) (p : Vd.Spot) (hs : Vd.CdS s) (hp : Vd.Sp p) (w : World) : Calls Tryz.prog 104 #[segV s, spotV p] w fun e w' => e = .returned (.bool (Vd.hasB s p)) ∧ Up w w' := by
 have HB := hide (hasB_of s p)
 have HS := hide hs
 have HP := hide hp
 obtain ⟨⟨ax, ay⟩, ⟨bx, bY⟩⟩ := s
 obtain ⟨⟨x, y⟩, t⟩ := p
 simp only [Vd.CdS, Vd.Cd, Vd.Sp] at hs hp
 obtain ⟨⟨a1, a2, a3, a4⟩, b1, b2, b3, b4⟩ := hs
 obtain ⟨x1, x2, y1, y2, t1, t2⟩ := hp
 have m1 := mul_bd (a := ax) (b := t) (A := 32768) (B := 1048576) (by omega) (by omega) (by omega) (by omega)
 have m2 := mul_bd (a := ay) (b := t) (A := 32768) (B := 1048576) (by omega) (by omega) (by omega) (by omega)
 have m3 := mul_bd (a := bx) (b := t) (A := 32768) (B := 1048576) (by omega) (by omega) (by omega) (by omega)
 have m4 := mul_bd (a := bY) (b := t) (A := 32768) (B := 1048576) (by omega) (by omega) (by omega) (by omega)
 simp only [segV, spotV]
 have wtac : True := trivial
 by_cases h0 : Vd.side ((ax, ay), (bx, bY)) ((x, y), t) = 0
 ·cases H1 : decide (Vd.btw (ax * t) x (bx * t))
  all_goals
   have H2 := hide H1
   go_enter Tryz.func104, Tryz.ntmps104
   go_wp2_with (first | (go_at_call 126; refine (side_any ((ax, ay), (bx, bY)) ((x, y), t) HS.out HP.out _).mono ?_; rintro e w1 ⟨rfl, u1⟩; obtain ⟨hc, hf⟩ := bcell u1; replace u1 := hide u1) | (go_at_call 132; refine (between_any _ _ _ _).mono ?_; rintro e w2 ⟨rfl, rfl⟩))
   go_ret
   exact ⟨ret_b (by rw [HB.out]; simp only [H2.out, h0]; simp), (((Up.refl _).alloc _).alloc _).trans u1.out⟩
 ·have h0' : (Vd.side ((ax, ay), (bx, bY)) ((x, y), t) == 0) = false := beq_eq_false_iff_ne.2 h0
  go_enter Tryz.func104, Tryz.ntmps104
  go_wp2_with (first | (go_at_call 126; refine (side_any ((ax, ay), (bx, bY)) ((x, y), t) HS.out HP.out _).mono ?_; rintro e w1 ⟨rfl, u1⟩; obtain ⟨hc, hf⟩ := bcell u1; replace u1 := hide u1))
  go_ret
  exact ⟨ret_b (by rw [HB.out]; simp [h0]), (((Up.refl _).alloc _).alloc _).trans u1.out⟩
set_option maxHeartbeats 2000000 in
theorem forward_any (s : Vd.Seg) (w : World) : Calls Tryz.prog 101 #[segV s] w fun e w' => e = .returned (segV (Vd.fwd s.1 s.2)) ∧ Up w w' := by
 obtain ⟨⟨ax, ay⟩, ⟨bx, bY⟩⟩ := s
 simp only [Vd.fwd]
 by_cases h : Vd.bef (bx, bY) (ax, ay)
 ·rw [if_pos h]
  have H := hide (decide_eq_true h)
  simp only [segV]
  go_enter Tryz.func101, Tryz.ntmps101
  go_wp2_with (go_at_call 128; refine (before_any (bx, bY) (ax, ay) _).mono ?_; rintro e w1 ⟨rfl, u1⟩; rw [H.out]; obtain ⟨hc, hf⟩ := bcell u1; have hz := u1.size; simp at hz; replace u1 := hide u1)
  refine bodyPost_ret (v := .agg #[.int .i64 bx, .int .i64 bY, .int .i64 ax, .int .i64 ay]) (by simp [results, Tryz.results101, go_sem, hc, hf, hz]) rfl ⟨rfl, ?_⟩
  repeat (refine Up.setCell ?_ (by simp) _)
  exact (((Up.refl _).alloc _).alloc _).trans u1.out
 ·rw [if_neg h]
  have H := hide (decide_eq_false h)
  simp only [segV]
  go_enter Tryz.func101, Tryz.ntmps101
  go_wp2_with (go_at_call 128; refine (before_any (bx, bY) (ax, ay) _).mono ?_; rintro e w1 ⟨rfl, u1⟩; rw [H.out]; obtain ⟨hc, hf⟩ := bcell u1; have hz := u1.size; simp at hz; replace u1 := hide u1)
  refine bodyPost_ret (v := .agg #[.int .i64 ax, .int .i64 ay, .int .i64 bx, .int .i64 bY]) (by simp [results, Tryz.results101, go_sem, hc, hf, hz]) rfl ⟨rfl, ?_⟩
  repeat (refine Up.setCell ?_ (by simp) _)
  exact (((Up.refl _).alloc _).alloc _).trans u1.out
end Go.Proofs.YtcclepohmhdpbabGreatDoor
