/- Decode AND Encode, whatever the format: what its reader and its writer do is handed in. -/
import Derived.Test.YtcclepohmhdpbabGreatDoorCnG
import Derived.Test.YtcclepohmhdpbabGreatDoorTuD
namespace Go.Proofs.YtcclepohmhdpbabGreatDoor
set_option linter.all false
open Go.RowKit Go.Deep

set_option maxHeartbeats 1000000 in
theorem isFormat_any (f : Int) (w : World) (hf : f = 0 ∨ f = 1 ∨ f = 2) :
    Calls Tryz.prog 29 #[.int .i64 f] w fun e w' => e = .returned (.bool true) ∧ w' = w := by
  rcases hf with rfl | rfl | rfl
  all_goals
    go_enter Tryz.func29, Tryz.ntmps29
    go_wp2
    go_ret
    exact ⟨rfl, rfl⟩

/-- What a format's reader does: the error E, and if there is none the set M. -/
def ReadPost (E : Int) (M : Mult) (w : World) (e : Ending) (w' : World) : Prop :=
  ∃ X : L3, e = .returned (.tuple #[X.v, .int .i64 E]) ∧ X.ok w' ∧ (E = 0 → X.m = M) ∧ Up w w'

set_option maxHeartbeats 1000000 in
theorem dec_long (f : Int) (l : List UInt8) (w : World) (hf : f = 0 ∨ f = 1 ∨ f = 2) (hl : 6000 < l.length) (hb : l.length ≤ 1048576) :
    Calls Tryz.prog 15 #[.int .i64 f, .string (bs l)] w fun e w' => e = .returned (.tuple #[.pointer none, .int .i64 2]) ∧ Up w w' := by
  have e0 := bs_size l
  have HF := hide hf
  clear hf
  go_enter Tryz.func15, Tryz.ntmps15
  go_wp2_with (go_at_call 29; refine (isFormat_any _ _ HF.out).mono ?_; rintro e w1 ⟨rfl, rfl⟩)
  go_ret2
  exact ⟨rfl, Up.refl _⟩

set_option maxHeartbeats 1000000 in
theorem dec_bad (f : Int) (l : List UInt8) (w : World) (hf : f = 0 ∨ f = 1 ∨ f = 2) (hl : l.length ≤ 6000) (E : Int) (M : Mult) (hE : E ≠ 0)
    (hread : ∀ w, Calls Tryz.prog 30 #[.int .i64 f, .string (bs l)] w (ReadPost E M w)) :
    Calls Tryz.prog 15 #[.int .i64 f, .string (bs l)] w fun e w' => e = .returned (.tuple #[.pointer none, .int .i64 E]) ∧ Up w w' := by
  have e0 := bs_size l
  have HF := hide hf
  have HR := hide hread
  have hE' : (E != 0) = true := bne_iff_ne.2 hE
  clear hf hread
  go_enter Tryz.func15, Tryz.ntmps15
  go_wp2_with (first
    | (go_at_call 29; refine (isFormat_any _ _ HF.out).mono ?_; rintro e w1 ⟨rfl, rfl⟩)
    | (go_at_call 30; refine (HR.out _).mono ?_; rintro e w2 ⟨X, rfl, -, -, u2⟩; replace u2 := hide u2))
  go_ret2
  exact ⟨rfl, u2.out⟩

set_option maxHeartbeats 1000000 in
theorem dec_form (f : Int) (l : List UInt8) (w : World) (hf : f = 0 ∨ f = 1 ∨ f = 2) (hl : l.length ≤ 6000) (M : Mult) (hb : Pl.Bd M) (hw : Pl.wrong M ≠ 0)
    (hread : ∀ w, Calls Tryz.prog 30 #[.int .i64 f, .string (bs l)] w (ReadPost 0 M w)) :
    Calls Tryz.prog 15 #[.int .i64 f, .string (bs l)] w fun e w' => e = .returned (.tuple #[.pointer none, .int .i64 (Pl.wrong M)]) ∧ Up w w' := by
  have e0 := bs_size l
  have HF := hide hf
  have HR := hide hread
  have HB := hide hb
  have HW := hide hw
  clear hf hread hb hw
  go_enter Tryz.func15, Tryz.ntmps15
  go_wp2_with (first
    | (go_at_call 29; refine (isFormat_any _ _ HF.out).mono ?_; rintro e w1 ⟨rfl, rfl⟩)
    | (go_at_call 30; refine (HR.out _).mono ?_; rintro e w2 ⟨X, rfl, hx, hm, u2⟩; have hrd := hide (hm rfl ▸ hx.rd); replace u2 := hide u2; clear hx hm)
    | (go_at_call 25; refine (make_bad _ M _ hrd.out HB.out HW.out).mono ?_; rintro e w3 ⟨rfl, u3⟩; replace u3 := hide u3))
  go_ret2
  exact ⟨rfl, u2.out.trans u3.out⟩

set_option maxHeartbeats 1000000 in
theorem dec_ok (f : Int) (l : List UInt8) (w : World) (hf : f = 0 ∨ f = 1 ∨ f = 2) (hl : l.length ≤ 6000) (M : Mult) (hb : Pl.Bd M) (hw : Pl.wrong M = 0)
    (hread : ∀ w, Calls Tryz.prog 30 #[.int .i64 f, .string (bs l)] w (ReadPost 0 M w)) :
    Calls Tryz.prog 15 #[.int .i64 f, .string (bs l)] w fun e w' => ∃ p b d, e = .returned (.tuple #[p, .int .i64 0]) ∧ Set3 w' p M b d ∧ (∀ x ∈ b :: d.bl, w.heap.size ≤ x) ∧ Up w w' := by
  have e0 := bs_size l
  have HF := hide hf
  have HR := hide hread
  have HB := hide hb
  have HW := hide hw
  clear hf hread hb hw
  go_enter Tryz.func15, Tryz.ntmps15
  go_wp2_with (first
    | (go_at_call 29; refine (isFormat_any _ _ HF.out).mono ?_; rintro e w1 ⟨rfl, rfl⟩)
    | (go_at_call 30; refine (HR.out _).mono ?_; rintro e w2 ⟨X, rfl, hx, hm, u2⟩; have hrd := hide (hm rfl ▸ hx.rd); replace u2 := hide u2; clear hx hm)
    | (go_at_call 25; refine (make_ok _ M _ hrd.out HB.out HW.out).mono ?_; rintro e w3 ⟨p, b, d, rfl, h1, h2, u3⟩; replace h1 := hide h1; replace h2 := hide h2; replace u3 := hide u3))
  go_ret2
  exact ⟨p, b, d, rfl, h1.out, fun x hx => Nat.le_trans u2.out.size (h2.out x hx), u2.out.trans u3.out⟩

/-! ### Encode -/
end Go.Proofs.YtcclepohmhdpbabGreatDoor
