/- THE WALKS: (*World).made. -/
import Derived.Test.YtcclepohmhdpbabWalkM
namespace Go.Proofs.Ytcclepohmhdpbab
set_option linter.all false
open Go.RowKit Go.Deep

/-- The caller's lists lie apart from the other things that may be written. -/
theorem L3.ok.types {w : World} {L : L3} (h : L.ok w) : ∀ b ∈ L.bl, ∃ c t, w.heap[b]? = some (.cells c t (0, 0)) ∧ (t = 27 ∨ t = 26 ∨ t = 25) := by
  intro b hb
  simp only [L3.bl, L2.bl, L1.bl, List.mem_append, List.mem_flatMap, Option.mem_toList] at hb
  rcases hb with hb | ⟨x, hx, hb | ⟨y, hy, hb⟩⟩
  · obtain ⟨c, hc⟩ := own_type h.row hb
    exact ⟨c, _, hc, .inl rfl⟩
  · obtain ⟨c, hc⟩ := own_type (h.sub x hx).row hb
    exact ⟨c, _, hc, .inr (.inl rfl)⟩
  · obtain ⟨c, hc⟩ := own_type ((h.sub x hx).sub y hy) hb
    exact ⟨c, _, hc, .inr (.inr rfl)⟩
theorem L3.ok.not_row {w : World} {L : L3} (h : L.ok w) {b : Nat} {t : TypeId} {vs : List Value} (hb : VRow w b t vs) (h1 : t ≠ 27) (h2 : t ≠ 26) (h3 : t ≠ 25) : b ∉ L.bl := by
  intro e
  obtain ⟨c, t', hc, ht⟩ := h.types b e
  unfold VRow at hb
  rw [hb] at hc
  simp at hc
  obtain ⟨_, rfl⟩ := hc
  rcases ht with e | e | e
  · exact h1 e
  · exact h2 e
  · exact h3 e
theorem L3.ok.not_own {w : World} {L : L3} (h : L.ok w) {base : Nat} {e : TypeId} {size : Nat} {v : Value} {n : Nat} {xs : List Value} (ho : w.ownsRow base e size v n xs) (h1 : e ≠ 27) (h2 : e ≠ 26) (h3 : e ≠ 25) {b : Nat} (hb : v.ownBlock = some b) : b ∉ L.bl := by
  intro e
  obtain ⟨c, t', hc, ht⟩ := h.types b e
  obtain ⟨c', hc'⟩ := own_type ho hb
  rw [hc'] at hc
  simp at hc
  obtain ⟨_, rfl⟩ := hc
  rcases ht with e | e | e
  · exact h1 e
  · exact h2 e
  · exact h3 e

end Go.Proofs.Ytcclepohmhdpbab
