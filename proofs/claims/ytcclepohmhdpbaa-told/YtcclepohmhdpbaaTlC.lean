/- Told: what Decode answers at a known text. -/
import Derived.Test.YtcclepohmhdpbaaTlA
namespace Go.Proofs.Ytcclepohmhdpbaa
set_option linter.all false
open Go.RowKit Go.Deep
namespace Tl
theorem reads (W : W) (hf : W.f = 0 ∨ W.f = 1 ∨ W.f = 2) (hl : W.s.length ≤ 6000) :
    (∀ w, Calls Try.prog 10 #[.int .i64 W.f, .string (bs W.s)] w (ReadPost (err W) (got W) w)) ∧ Pl.Bd (got W) := by
  obtain ⟨s, f, e, x⟩ := W
  dsimp only at hf hl
  rcases hf with rfl | rfl | rfl
  · exact ⟨fun w => read0_any s w hl, (Wt.got_ok hl).bd⟩
  · exact ⟨fun w => read1_any s w hl, (Bn.got_ok hl).bd⟩
  · exact ⟨fun w => read2_any s w hl, (Js.got_ok hl).bd⟩

theorem one_iff {m : Mult} {x : Int} (h : one m x = true) : ∃ p q r s, m = [[[p, (x, q), r, s]]] := by
  unfold one at h
  split at h
  · rename_i p0 p r s
    exact ⟨p0, p.2, r, s, by rw [← (beq_iff_eq.1 h)]⟩
  · cases h

/-- What the known text's row says of the answer. -/
def Ans (W : W) (w : World) (e : Ending) (w' : World) : Prop :=
  (W.e ≠ 0 ∧ e = .returned (.tuple #[.pointer none, .int .i64 W.e]) ∧ Up w w') ∨
  (W.e = 0 ∧ ∃ b d M, e = .returned (.tuple #[.pointer (some ⟨b, 0, none⟩), .int .i64 0]) ∧ Set3 w' (.pointer (some ⟨b, 0, none⟩)) M b d ∧ Pl.Bd M ∧
    ((W.x = -99 ∧ M = []) ∨ (W.x ≠ -99 ∧ ∃ p q r s, M = [[[p, (W.x, q), r, s]]])) ∧ Up w w')

theorem dec_any (W : W) (hW : W ∈ tab) (w : World) : Calls Try.prog 7 #[.int .i64 W.f, .string (bs W.s)] w (Ans W w) := by
  have h := all W hW
  simp only [good, Bool.and_eq_true, Bool.or_eq_true, beq_iff_eq, decide_eq_true_eq] at h
  obtain ⟨⟨hf, hl⟩, h⟩ := h
  have hf' : W.f = 0 ∨ W.f = 1 ∨ W.f = 2 := by omega
  obtain ⟨hr, hb⟩ := reads W hf' hl
  by_cases h0 : err W = 0
  · rw [h0] at hr h
    by_cases h1 : Pl.wrong (got W) = 0
    · simp [h1] at h
      refine (dec_ok W.f W.s w hf' hl _ hb h1 hr).mono ?_
      rintro e w' ⟨p, b, d, rfl, hs, -, u⟩
      have hp := hs.ptr
      subst hp
      refine .inr ⟨h.1, b, d, _, rfl, hs, hb, ?_, u⟩
      by_cases hx : W.x = -99
      · exact .inl ⟨hx, by simpa [hx] using h.2⟩
      · exact .inr ⟨hx, one_iff (by simpa [hx] using h.2)⟩
    · simp [h1] at h
      refine (dec_form W.f W.s w hf' hl _ hb h1 hr).mono ?_
      rintro e w' ⟨rfl, u⟩
      exact .inl ⟨h ▸ h1, by rw [h], u⟩
  · simp [h0] at h
    refine (dec_bad W.f W.s w hf' hl _ _ h0 hr).mono ?_
    rintro e w' ⟨rfl, u⟩
    exact .inl ⟨h ▸ h0, by rw [h], u⟩
end Tl
end Go.Proofs.Ytcclepohmhdpbaa
