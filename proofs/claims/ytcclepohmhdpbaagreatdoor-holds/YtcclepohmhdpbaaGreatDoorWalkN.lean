/- THE WALKS: (*World).made. -/
import Derived.Test.YtcclepohmhdpbaaGreatDoorWalkM
namespace Go.Proofs.YtcclepohmhdpbaaGreatDoor
set_option linter.all false
open Go.RowKit Go.Deep

theorem Inv.kept {w0 : World} {w w' : World} {Wb : Nat} {psv outv psv' outv' : Value} {mk : Int} {S : List SG} {O : List OG} {L L' : L3} {n : Nat} (h : Inv w0 w Wb psv outv mk S O L n) (k : Fr (Mut Wb psv outv L) w w') (hM : ∀ b, b < w.heap.size → Mut Wb psv' outv' L' b → Mut Wb psv outv L b) :
    (∀ s ∈ S, SetOK (fun b => ¬ Mut Wb psv' outv' L' b) w' s) ∧ (∀ o ∈ O, HSo (fun b => ¬ Mut Wb psv' outv' L' b) w' o) :=
  ⟨fun s hs => (h.sets s hs).keep k fun b hb hF => ⟨fun e => hF (hM b hb e), hF⟩, fun o ho => (h.outs o ho).keep k fun b hb hF => ⟨fun e => hF (hM b hb e), hF⟩⟩

theorem Inv.lt {w0 : World} {w : World} {Wb : Nat} {psv outv : Value} {mk : Int} {S : List SG} {O : List OG} {L : L3} {n : Nat} (h : Inv w0 w Wb psv outv mk S O L n) : ∀ b, Mut Wb psv outv L b → b < w.heap.size := by
  rintro b (e | e | e | e)
  · rw [e]; exact VRow.lt h.wrow
  · exact (own_lt h.ops e).2
  · exact (own_lt h.oout e).2
  · exact h.lok.lt b e

theorem Inv.base' {w0 : World} {w w' : World} {Wb : Nat} {psv outv : Value} {mk : Int} {S : List SG} {O : List OG} {L : L3} {n : Nat} (h : Inv w0 w Wb psv outv mk S O L n) (k : Fr (Mut Wb psv outv L) w w') : Up w0 w' :=
  ⟨k.os.trans h.base.os, k.tape.trans h.base.tape, k.output.trans h.base.output, Nat.le_trans h.base.size k.size, fun b hb => (k.block b (Nat.lt_of_lt_of_le hb h.base.size) (fun e => by have := h.low b e; omega)).trans (h.base.block b hb)⟩
theorem Inv.low' {w0 : World} {w : World} {Wb : Nat} {psv outv psv' outv' : Value} {mk : Int} {S : List SG} {O : List OG} {L L' : L3} {n : Nat} (h : Inv w0 w Wb psv outv mk S O L n) (hM : ∀ b, b < w.heap.size → Mut Wb psv' outv' L' b → Mut Wb psv outv L b) : ∀ b, Mut Wb psv' outv' L' b → w0.heap.size ≤ b := fun b e => by
  rcases Nat.lt_or_ge b w.heap.size with hb | hb
  · exact h.low b (hM b hb e)
  · have := h.base.size; omega

/-- The caller's lists lie apart from the other things that may be written. -/
theorem L3.ok.types {w : World} {L : L3} (h : L.ok w) : ∀ b ∈ L.bl, ∃ c t, w.heap[b]? = some (.cells c t (0, 0)) ∧ (t = 33 ∨ t = 30 ∨ t = 32) := by
  intro b hb
  simp only [L3.bl, L2.bl, L1.bl, List.mem_append, List.mem_flatMap, Option.mem_toList] at hb
  rcases hb with hb | ⟨x, hx, hb | ⟨y, hy, hb⟩⟩
  · obtain ⟨c, hc⟩ := own_type h.row hb
    exact ⟨c, _, hc, .inl rfl⟩
  · obtain ⟨c, hc⟩ := own_type (h.sub x hx).row hb
    exact ⟨c, _, hc, .inr (.inl rfl)⟩
  · obtain ⟨c, hc⟩ := own_type ((h.sub x hx).sub y hy) hb
    exact ⟨c, _, hc, .inr (.inr rfl)⟩
theorem L3.ok.not_row {w : World} {L : L3} (h : L.ok w) {b : Nat} {t : TypeId} {vs : List Value} (hb : VRow w b t vs) (h1 : t ≠ 33) (h2 : t ≠ 30) (h3 : t ≠ 32) : b ∉ L.bl := by
  intro e
  obtain ⟨c, t', hc, ht⟩ := h.types b e
  unfold VRow at hb
  rw [hb] at hc
  simp at hc
  obtain ⟨_, rfl⟩ := hc
  rcases ht with e | e | e
  · exact h1 e
  · exact h2 e
  · exact h3 e
theorem L3.ok.not_own {w : World} {L : L3} (h : L.ok w) {base : Nat} {e : TypeId} {size : Nat} {v : Value} {n : Nat} {xs : List Value} (ho : w.ownsRow base e size v n xs) (h1 : e ≠ 33) (h2 : e ≠ 30) (h3 : e ≠ 32) {b : Nat} (hb : v.ownBlock = some b) : b ∉ L.bl := by
  intro e
  obtain ⟨c, t', hc, ht⟩ := h.types b e
  obtain ⟨c', hc'⟩ := own_type ho hb
  rw [hc'] at hc
  simp at hc
  obtain ⟨_, rfl⟩ := hc
  rcases ht with e | e | e
  · exact h1 e
  · exact h2 e
  · exact h3 e

/-- Behind made, where there is no set. -/
theorem Inv.made_bad {w0 : World} {w w' : World} {Wb : Nat} {psv outv : Value} {mk mk' : Int} {S : List SG} {O : List OG} {L : L3} {n : Nat} (h : Inv w0 w Wb psv outv mk S O L n) (k : Fr (fun b => b = Wb) w w') (hW : WR w' Wb psv L.v outv mk') (h1 : mk ≤ mk') (h2 : mk' ≤ mk + 2097152) : Inv w0 w' Wb psv outv mk' S O L (n + 1) := by
  have kk : Fr (Mut Wb psv outv L) w w' := k.mono fun b _ e => .inl e
  obtain ⟨q1, q2⟩ := h.kept kk (psv' := psv) (outv' := outv) (L' := L) fun b _ e => e
  refine ⟨hW, own_fr h.ops k (fun g e e2 => own_row_ne h.ops h.wrow (by decide) (e2 ▸ e)), own_fr h.oout k (fun g e e2 => own_row_ne h.oout h.wrow (by decide) (e2 ▸ e)), h.lok.of fun b hb => k.block b (h.lok.lt b hb) (fun e => h.lok.not_row h.wrow (by decide) (by decide) (by decide) (e ▸ hb)), h.nodup, q1, q2, ?_, ?_, ?_, ?_, ?_, h.base' kk, h.low' fun b _ e => e⟩
  · have := h.bS; omega
  · have := h.bO; omega
  · have := h.mk0; omega
  · have := h.mk1; omega
  · have := h.tot_; omega

/-- Behind made, where there is one set more. -/
theorem Inv.made_ok {w0 : World} {w w' : World} {Wb : Nat} {psv psv' outv : Value} {mk mk' : Int} {S : List SG} {O : List OG} {L : L3} {n : Nat} (h : Inv w0 w Wb psv outv mk S O L n) {s : SG} (k : Fr (fun b => b = Wb ∨ psv.ownBlock = some b) w w') (hW : WR w' Wb psv' L.v outv mk') (h1 : mk ≤ mk') (h2 : mk' ≤ mk + 2097152)
    (hown : w'.ownsRow 0 52 2 psv' (S.length + 1) (cellsS S ++ s.cells)) {N : Nat} (hN : w.heap.size ≤ N) (hat : psv'.ownBlock = psv.ownBlock ∨ ∃ g, psv'.ownBlock = some g ∧ N ≤ g) (hs : SetOK (fun b => w.heap.size ≤ b ∧ b < N) w' s) : Inv w0 w' Wb psv' outv mk' (S ++ [s]) O L (n + 1) := by
  have kk : Fr (Mut Wb psv outv L) w w' := k.mono fun b _ e => by
    rcases e with e | e
    · exact .inl e
    · exact .inr (.inl e)
  have hM : ∀ b, b < w.heap.size → Mut Wb psv' outv L b → Mut Wb psv outv L b := fun b hb e => by
    rcases e with e | e | e | e
    · exact .inl e
    · rcases hat with e2 | ⟨g, e2, e3⟩
      · exact .inr (.inl (by rw [← e2]; exact e))
      · rw [e2] at e; cases e; omega
    · exact .inr (.inr (.inl e))
    · exact .inr (.inr (.inr e))
  obtain ⟨q1, q2⟩ := h.kept kk hM
  refine ⟨hW, by rw [cellsS_snoc, List.length_append]; exact hown, own_fr h.oout k (fun g e e2 => ?_), h.lok.of fun b hb => k.block b (h.lok.lt b hb) (fun e => ?_), h.nodup, ?_, q2, ?_, ?_, ?_, ?_, ?_, h.base' kk, h.low' hM⟩
  · rcases e2 with e2 | e2
    · exact own_row_ne h.oout h.wrow (by decide) (e2 ▸ e)
    · rcases own_apart h.oout h.ops (by decide) with e3 | e3
      · rw [e3] at e; cases e
      · exact e3 (by rw [e, e2])
  · rcases e with e | e
    · exact h.lok.not_row h.wrow (by decide) (by decide) (by decide) (e ▸ hb)
    · exact h.lok.not_own h.ops (by decide) (by decide) (by decide) e hb
  · intro t ht
    rcases List.mem_append.1 ht with ht | ht
    · exact q1 t ht
    · simp at ht; subst ht
      refine hs.keep (Fr.refl (fun _ => False) _) fun b _ hF => ⟨fun e => ?_, fun h => h⟩
      rcases e with e | e | e | e
      · have := VRow.lt h.wrow; omega
      · rcases hat with e2 | ⟨g, e2, e3⟩
        · have := (own_lt h.ops (g := b) (by rw [← e2]; exact e)).2; omega
        · rw [e2] at e; cases e; omega
      · have := (own_lt h.oout e).2; omega
      · have := h.lok.lt b e; omega
  · have := h.bS; simp; omega
  · have := h.bO; omega
  · have := h.mk0; omega
  · have := h.mk1; omega
  · have := h.tot_; omega

end Go.Proofs.YtcclepohmhdpbaaGreatDoor
