import Derived.Test.YtcclepohmhdpbaaGreatDoorInv
import Derived.Test.YtcclepohmhdpbaaGreatDoorWalkD
/- THE WALKS: (*World).keep, made. -/
namespace Go.Proofs.YtcclepohmhdpbaaGreatDoor
set_option linter.all false
open Go.RowKit Go.Deep

theorem el_pair : Elem Tryz.prog 35 52 (.agg #[.pointer none, .slice none 0 0]) 2 32 := ⟨by kernel_rfl, by kernel_rfl, rfl, by omega, by omega⟩

set_option maxRecDepth 100000 in
set_option maxHeartbeats 4000000 in
theorem keep_gen (w : World) (Wb : Nat) (psv lv outv : Value) (mk : Int) (S : List SG) (hW : WR w Wb psv lv outv mk) (hown : w.ownsRow 0 52 2 psv S.length (cellsS S)) (hSb : S.length ≤ 1073741824) (b : Nat) (ao : Option Addr) (ln cp : Nat) :
    Calls Tryz.prog 32 #[.pointer (some ⟨Wb, 0, none⟩), .pointer (some ⟨b, 0, none⟩), .slice ao ln cp] w fun e w' => e = .returned (.bool true) ∧ ∃ psv', WR w' Wb psv' lv outv mk ∧ w'.ownsRow 0 52 2 psv' (S.length + 1) (cellsS S ++ [.pointer (some ⟨b, 0, none⟩), .slice ao ln cp]) ∧ Fr (fun b => b = Wb ∨ psv.ownBlock = some b) w w' ∧ (psv'.ownBlock = psv.ownBlock ∨ ∃ g, psv'.ownBlock = some g ∧ w.heap.size ≤ g) := by
  have hW' := hide hW
  have hown' := hide hown
  have c0 := hW.c0
  have hWA : Hid (WR (w.alloc (.cells #[.pointer (some ⟨b, 0, none⟩), .slice ao ln cp] 52)) Wb psv lv outv mk) := VRow.alloc hW _
  have hOA := hide (hown.alloc (.cells #[.pointer (some ⟨b, 0, none⟩), .slice ao ln cp] 52))
  have hne := hide (own_row_ne hOA.out hWA.out (by decide))
  clear hW hown
  go_enter Tryz.func32, Tryz.ntmps32
  go_wp2_with (at_builtin; refine wpList_app el_pair rfl (.tmp 11) (.tmp 15) rfl 0 psv _ _ (by rfl) hOA.out w.heap.size [.pointer (some ⟨b, 0, none⟩), .slice ao ln cp] (by rfl) rfl (heap_alloc_new w _) (by intro u hu; simp at hu; rcases hu with rfl | rfl <;> rfl) hSb (by omega) ?_; intro g cap w1 hown1 hg1 hat1 hlt1; have r4 := VRow.grown hWA.out hg1 hne.out; have rc4 := VRow.cell r4 (i := 0) (v := psv) rfl; have rf4 := VRow.frozen r4 0; replace r4 := hide r4; replace hown1 := hide hown1; replace hg1 := hide hg1; replace hat1 := hide hat1)
  go_ret
  refine ⟨rfl, .slice (some ⟨g, 0, none⟩) (S.length + 1) cap, VRow.set r4.out 0 _, own_set hown1.out (own_row_ne hown1.out r4.out (by decide)) _, ?_, ?_⟩
  · exact (((Fr.of_up ((Up.refl w).alloc _)).then (Fr.of_grown hg1.out) fun x _ e => .inr e)).setCell (.inl rfl) _
  · rcases hat1.out with e | e
    · exact .inl e.symm
    · exact .inr ⟨g, rfl, by rw [e]; simp⟩

theorem keep_any (w : World) (Wb : Nat) (psv lv outv : Value) (mk : Int) (S : List SG) (hW : WR w Wb psv lv outv mk) (hown : w.ownsRow 0 52 2 psv S.length (cellsS S)) (hSb : S.length ≤ 1073741824) (b : Nat) (d : D3) :
    Calls Tryz.prog 32 #[.pointer (some ⟨Wb, 0, none⟩), .pointer (some ⟨b, 0, none⟩), d.v] w fun e w' => e = .returned (.bool true) ∧ ∃ psv', WR w' Wb psv' lv outv mk ∧ w'.ownsRow 0 52 2 psv' (S.length + 1) (cellsS S ++ [.pointer (some ⟨b, 0, none⟩), d.v]) ∧ Fr (fun b => b = Wb ∨ psv.ownBlock = some b) w w' ∧ (psv'.ownBlock = psv.ownBlock ∨ ∃ g, psv'.ownBlock = some g ∧ w.heap.size ≤ g) :=
  keep_gen w Wb psv lv outv mk S hW hown hSb b (some ⟨d.b, 0, none⟩) d.ps.length (d.ps.length + d.s.length)

end Go.Proofs.YtcclepohmhdpbaaGreatDoor

/- THE WALKS: (*World).made. -/
namespace Go.Proofs.YtcclepohmhdpbaaGreatDoor
set_option linter.all false
open Go.RowKit Go.Deep

theorem Inv.kept {w0 : World} {w w' : World} {Wb : Nat} {psv outv psv' outv' : Value} {mk : Int} {S : List SG} {O : List OG} {L L' : L3} {n : Nat} (h : Inv w0 w Wb psv outv mk S O L n) (k : Fr (Mut Wb psv outv L) w w') (hM : ∀ b, b < w.heap.size → Mut Wb psv' outv' L' b → Mut Wb psv outv L b) :
    (∀ s ∈ S, SetOK (fun b => ¬ Mut Wb psv' outv' L' b) w' s) ∧ (∀ o ∈ O, HSo (fun b => ¬ Mut Wb psv' outv' L' b) w' o) :=
  ⟨fun s hs => (h.sets s hs).keep k fun b hb hF => ⟨fun e => hF (hM b hb e), hF⟩, fun o ho => (h.outs o ho).keep k fun b hb hF => ⟨fun e => hF (hM b hb e), hF⟩⟩

theorem Inv.lt {w0 : World} {w : World} {Wb : Nat} {psv outv : Value} {mk : Int} {S : List SG} {O : List OG} {L : L3} {n : Nat} (h : Inv w0 w Wb psv outv mk S O L n) : ∀ b, Mut Wb psv outv L b → b < w.heap.size := by
  rintro b (e | e | e | e)
  · rw [e]; exact VRow.lt h.wrow
  · exact (own_lt h.ops e).2
  · exact (own_lt h.oout e).2
  · exact h.lok.lt b e

theorem Inv.base' {w0 : World} {w w' : World} {Wb : Nat} {psv outv : Value} {mk : Int} {S : List SG} {O : List OG} {L : L3} {n : Nat} (h : Inv w0 w Wb psv outv mk S O L n) (k : Fr (Mut Wb psv outv L) w w') : Up w0 w' :=
  ⟨k.os.trans h.base.os, k.tape.trans h.base.tape, k.output.trans h.base.output, Nat.le_trans h.base.size k.size, fun b hb => (k.block b (Nat.lt_of_lt_of_le hb h.base.size) (fun e => by have := h.low b e; omega)).trans (h.base.block b hb)⟩
theorem Inv.low' {w0 : World} {w : World} {Wb : Nat} {psv outv psv' outv' : Value} {mk : Int} {S : List SG} {O : List OG} {L L' : L3} {n : Nat} (h : Inv w0 w Wb psv outv mk S O L n) (hM : ∀ b, b < w.heap.size → Mut Wb psv' outv' L' b → Mut Wb psv outv L b) : ∀ b, Mut Wb psv' outv' L' b → w0.heap.size ≤ b := fun b e => by
  rcases Nat.lt_or_ge b w.heap.size with hb | hb
  · exact h.low b (hM b hb e)
  · have := h.base.size; omega

/-- The caller's lists lie apart from the other things that may be written. -/
theorem L3.ok.types {w : World} {L : L3} (h : L.ok w) : ∀ b ∈ L.bl, ∃ c t, w.heap[b]? = some (.cells c t (0, 0)) ∧ (t = 33 ∨ t = 30 ∨ t = 32) := by
  intro b hb
  simp only [L3.bl, L2.bl, L1.bl, List.mem_append, List.mem_flatMap, Option.mem_toList] at hb
  rcases hb with hb | ⟨x, hx, hb | ⟨y, hy, hb⟩⟩
  · obtain ⟨c, hc⟩ := own_type h.row hb
    exact ⟨c, _, hc, .inl rfl⟩
  · obtain ⟨c, hc⟩ := own_type (h.sub x hx).row hb
    exact ⟨c, _, hc, .inr (.inl rfl)⟩
  · obtain ⟨c, hc⟩ := own_type ((h.sub x hx).sub y hy) hb
    exact ⟨c, _, hc, .inr (.inr rfl)⟩
theorem L3.ok.not_row {w : World} {L : L3} (h : L.ok w) {b : Nat} {t : TypeId} {vs : List Value} (hb : VRow w b t vs) (h1 : t ≠ 33) (h2 : t ≠ 30) (h3 : t ≠ 32) : b ∉ L.bl := by
  intro e
  obtain ⟨c, t', hc, ht⟩ := h.types b e
  unfold VRow at hb
  rw [hb] at hc
  simp at hc
  obtain ⟨_, rfl⟩ := hc
  rcases ht with e | e | e
  · exact h1 e
  · exact h2 e
  · exact h3 e
theorem L3.ok.not_own {w : World} {L : L3} (h : L.ok w) {base : Nat} {e : TypeId} {size : Nat} {v : Value} {n : Nat} {xs : List Value} (ho : w.ownsRow base e size v n xs) (h1 : e ≠ 33) (h2 : e ≠ 30) (h3 : e ≠ 32) {b : Nat} (hb : v.ownBlock = some b) : b ∉ L.bl := by
  intro e
  obtain ⟨c, t', hc, ht⟩ := h.types b e
  obtain ⟨c', hc'⟩ := own_type ho hb
  rw [hc'] at hc
  simp at hc
  obtain ⟨_, rfl⟩ := hc
  rcases ht with e | e | e
  · exact h1 e
  · exact h2 e
  · exact h3 e

/-- Behind made, where there is no set. -/
theorem Inv.made_bad {w0 : World} {w w' : World} {Wb : Nat} {psv outv : Value} {mk mk' : Int} {S : List SG} {O : List OG} {L : L3} {n : Nat} (h : Inv w0 w Wb psv outv mk S O L n) (k : Fr (fun b => b = Wb) w w') (hW : WR w' Wb psv L.v outv mk') (h1 : mk ≤ mk') (h2 : mk' ≤ mk + 2097152) : Inv w0 w' Wb psv outv mk' S O L (n + 1) := by
  have kk : Fr (Mut Wb psv outv L) w w' := k.mono fun b _ e => .inl e
  obtain ⟨q1, q2⟩ := h.kept kk (psv' := psv) (outv' := outv) (L' := L) fun b _ e => e
  refine ⟨hW, own_fr h.ops k (fun g e e2 => own_row_ne h.ops h.wrow (by decide) (e2 ▸ e)), own_fr h.oout k (fun g e e2 => own_row_ne h.oout h.wrow (by decide) (e2 ▸ e)), h.lok.of fun b hb => k.block b (h.lok.lt b hb) (fun e => h.lok.not_row h.wrow (by decide) (by decide) (by decide) (e ▸ hb)), h.nodup, q1, q2, ?_, ?_, ?_, ?_, ?_, h.base' kk, h.low' fun b _ e => e⟩
  · have := h.bS; omega
  · have := h.bO; omega
  · have := h.mk0; omega
  · have := h.mk1; omega
  · have := h.tot_; omega

/-- Behind made, where there is one set more. -/
theorem Inv.made_ok {w0 : World} {w w' : World} {Wb : Nat} {psv psv' outv : Value} {mk mk' : Int} {S : List SG} {O : List OG} {L : L3} {n : Nat} (h : Inv w0 w Wb psv outv mk S O L n) {s : SG} (k : Fr (fun b => b = Wb ∨ psv.ownBlock = some b) w w') (hW : WR w' Wb psv' L.v outv mk') (h1 : mk ≤ mk') (h2 : mk' ≤ mk + 2097152)
    (hown : w'.ownsRow 0 52 2 psv' (S.length + 1) (cellsS S ++ s.cells)) {N : Nat} (hN : w.heap.size ≤ N) (hat : psv'.ownBlock = psv.ownBlock ∨ ∃ g, psv'.ownBlock = some g ∧ N ≤ g) (hs : SetOK (fun b => w.heap.size ≤ b ∧ b < N) w' s) : Inv w0 w' Wb psv' outv mk' (S ++ [s]) O L (n + 1) := by
  have kk : Fr (Mut Wb psv outv L) w w' := k.mono fun b _ e => by
    rcases e with e | e
    · exact .inl e
    · exact .inr (.inl e)
  have hM : ∀ b, b < w.heap.size → Mut Wb psv' outv L b → Mut Wb psv outv L b := fun b hb e => by
    rcases e with e | e | e | e
    · exact .inl e
    · rcases hat with e2 | ⟨g, e2, e3⟩
      · exact .inr (.inl (by rw [← e2]; exact e))
      · rw [e2] at e; cases e; omega
    · exact .inr (.inr (.inl e))
    · exact .inr (.inr (.inr e))
  obtain ⟨q1, q2⟩ := h.kept kk hM
  refine ⟨hW, by rw [cellsS_snoc, List.length_append]; exact hown, own_fr h.oout k (fun g e e2 => ?_), h.lok.of fun b hb => k.block b (h.lok.lt b hb) (fun e => ?_), h.nodup, ?_, q2, ?_, ?_, ?_, ?_, ?_, h.base' kk, h.low' hM⟩
  · rcases e2 with e2 | e2
    · exact own_row_ne h.oout h.wrow (by decide) (e2 ▸ e)
    · rcases own_apart h.oout h.ops (by decide) with e3 | e3
      · rw [e3] at e; cases e
      · exact e3 (by rw [e, e2])
  · rcases e with e | e
    · exact h.lok.not_row h.wrow (by decide) (by decide) (by decide) (e ▸ hb)
    · exact h.lok.not_own h.ops (by decide) (by decide) (by decide) e hb
  · intro t ht
    rcases List.mem_append.1 ht with ht | ht
    · exact q1 t ht
    · simp at ht; subst ht
      refine hs.keep (Fr.refl (fun _ => False) _) fun b _ hF => ⟨fun e => ?_, fun h => h⟩
      rcases e with e | e | e | e
      · have := VRow.lt h.wrow; omega
      · rcases hat with e2 | ⟨g, e2, e3⟩
        · have := (own_lt h.ops (g := b) (by rw [← e2]; exact e)).2; omega
        · rw [e2] at e; cases e; omega
      · have := (own_lt h.oout e).2; omega
      · have := h.lok.lt b e; omega
  · have := h.bS; simp; omega
  · have := h.bO; omega
  · have := h.mk0; omega
  · have := h.mk1; omega
  · have := h.tot_; omega

end Go.Proofs.YtcclepohmhdpbaaGreatDoor

/- THE CALLER's LISTS TURN: what appends and stores make of them. -/
namespace Go.Proofs.YtcclepohmhdpbaaGreatDoor
set_option linter.all false
open Go.RowKit Go.Deep

theorem Inv.lists {w0 : World} {w w' : World} {Wb : Nat} {psv outv : Value} {mk : Int} {S : List SG} {O : List OG} {L L' : L3} {n : Nat} (h : Inv w0 w Wb psv outv mk S O L n) (k : Fr (fun b => b = Wb ∨ b ∈ L.bl) w w') (hW : WR w' Wb psv L'.v outv mk) (hok : L'.ok w') (hnd : L'.bl.Nodup)
    (hbl : ∀ b ∈ L'.bl, b ∈ L.bl ∨ w.heap.size ≤ b) (ht : tot L'.m ≤ n + 1) : Inv w0 w' Wb psv outv mk S O L' (n + 1) := by
  have kk : Fr (Mut Wb psv outv L) w w' := k.mono fun b _ e => by
    rcases e with e | e
    · exact .inl e
    · exact .inr (.inr (.inr e))
  have hM : ∀ b, b < w.heap.size → Mut Wb psv outv L' b → Mut Wb psv outv L b := fun b hb e => by
    rcases e with e | e | e | e
    · exact .inl e
    · exact .inr (.inl e)
    · exact .inr (.inr (.inl e))
    · rcases hbl b e with e | e
      · exact .inr (.inr (.inr e))
      · omega
  obtain ⟨q1, q2⟩ := h.kept kk hM
  refine ⟨hW, own_fr h.ops k (fun g e e2 => ?_), own_fr h.oout k (fun g e e2 => ?_), hok, hnd, q1, q2, ?_, ?_, h.mk0, ?_, ht, h.base' kk, h.low' hM⟩
  · rcases e2 with e2 | e2
    · exact own_row_ne h.ops h.wrow (by decide) (e2 ▸ e)
    · exact h.lok.not_own h.ops (by decide) (by decide) (by decide) e e2
  · rcases e2 with e2 | e2
    · exact own_row_ne h.oout h.wrow (by decide) (e2 ▸ e)
    · exact h.lok.not_own h.oout (by decide) (by decide) (by decide) e e2
  · have := h.bS; omega
  · have := h.bO; omega
  · have := h.mk1; omega

theorem own_stored {w : World} {base : Nat} {e : TypeId} {v : Value} {n : Nat} {xs : List Value} (h : w.ownsRow base e 1 v n xs) {g : Nat} (hg : v.ownBlock = some g) {i : Nat} (hi : i < n) (u : Value) : (w.setCell ⟨g, i, none⟩ u).ownsRow base e 1 v n (xs.set i u) := by
  refine ⟨by rw [List.length_set]; exact h.1, ?_⟩
  rcases h.2 with ⟨rfl, _⟩ | ⟨g', cap, cur, rfl, hb, hh, h1, h2, h3, h4⟩
  · cases hg
  · cases hg
    refine .inr ⟨_, cap, cur.setIfInBounds i u, rfl, hb, ?_, h1, h2, by simpa using h3, ?_⟩
    · simp [World.setCell, Array.getElem?_modify, hh]
    · rw [Array.toList_setIfInBounds, ← h4, List.take_set]

theorem own_frozen {w : World} {base : Nat} {e : TypeId} {size : Nat} {v : Value} {n : Nat} {xs : List Value} (h : w.ownsRow base e size v n xs) {g : Nat} (hg : v.ownBlock = some g) (i : Nat) : w.frozen? ⟨g, i, none⟩ = false := by
  obtain ⟨c, hc⟩ := own_type h hg
  simp [World.frozen?, hc]

theorem nodup_replace {P Q o : List Nat} {g : Nat} (h : (P ++ (o ++ Q)).Nodup) (hg : ∀ b ∈ P ++ Q, b ≠ g) : (P ++ ([g] ++ Q)).Nodup := by
  rw [List.nodup_append] at h ⊢
  obtain ⟨h1, h2, h3⟩ := h
  rw [List.nodup_append] at h2
  obtain ⟨h4, h5, h6⟩ := h2
  refine ⟨h1, List.nodup_append.2 ⟨by simp, h5, fun a ha b hb => ?_⟩, fun a ha b hb => ?_⟩
  · simp at ha; subst ha
    exact fun e => hg b (List.mem_append_right _ hb) e.symm
  · rcases List.mem_append.1 hb with hb | hb
    · simp at hb; subst hb
      exact hg a (List.mem_append_left _ ha)
    · exact h3 a ha b (List.mem_append_right _ hb)

theorem nodup_mid {P Q o : List Nat} (h : (P ++ (o ++ Q)).Nodup) {b : Nat} (ho : b ∈ o) : b ∉ P ∧ b ∉ Q := by
  rw [List.nodup_append] at h
  obtain ⟨h1, h2, h3⟩ := h
  rw [List.nodup_append] at h2
  exact ⟨fun e => h3 b e b (List.mem_append_left _ ho) rfl, fun e => h2.2.2 b ho b e rfl⟩

def nilV : Value := .slice none 0 0
def L3.nil : L3 := ⟨nilV, []⟩
def L2.nil : L2 := ⟨nilV, []⟩
def L1.nil : L1 := ⟨nilV, []⟩

/-- Where the new list lies: in the old block, or in a new one. -/
theorem own_toList {v : Value} {g : Nat} {w0 : World} {n cap : Nat} (hat : v.ownBlock = some g ∨ g = w0.heap.size) : (Value.slice (some ⟨g, 0, none⟩) n cap).ownBlock.toList = v.ownBlock.toList ∨ ((Value.slice (some ⟨g, 0, none⟩) n cap).ownBlock.toList = [g] ∧ g = w0.heap.size) := by
  rcases hat with e | e
  · exact .inl (by rw [e]; rfl)
  · exact .inr ⟨rfl, e⟩

/-- One polygon more. -/
theorem L3.poly {w w1 : World} {L : L3} (h : L.ok w) (hnd : L.bl.Nodup) {g cap : Nat} (hg : w.grownBy w1 L.v.ownBlock) (hown : w1.ownsRow 0 33 1 (.slice (some ⟨g, 0, none⟩) (L.ps.length + 1) cap) (L.ps.length + 1) (L.ps.map L2.v ++ [nilV])) (hat : L.v.ownBlock = some g ∨ g = w.heap.size) :
    L3.ok w1 ⟨.slice (some ⟨g, 0, none⟩) (L.ps.length + 1) cap, L.ps ++ [L2.nil]⟩ ∧ L3.bl ⟨.slice (some ⟨g, 0, none⟩) (L.ps.length + 1) cap, L.ps ++ [L2.nil]⟩ = (Value.slice (some ⟨g, 0, none⟩) (L.ps.length + 1) cap).ownBlock.toList ++ L.ps.flatMap L2.bl ∧ (L3.bl ⟨.slice (some ⟨g, 0, none⟩) (L.ps.length + 1) cap, L.ps ++ [L2.nil]⟩).Nodup ∧ (∀ b ∈ L3.bl ⟨.slice (some ⟨g, 0, none⟩) (L.ps.length + 1) cap, L.ps ++ [L2.nil]⟩, b ∈ L.bl ∨ w.heap.size ≤ b) := by
  have ebl : L3.bl ⟨.slice (some ⟨g, 0, none⟩) (L.ps.length + 1) cap, L.ps ++ [L2.nil]⟩ = (Value.slice (some ⟨g, 0, none⟩) (L.ps.length + 1) cap).ownBlock.toList ++ L.ps.flatMap L2.bl := by
    simp [L3.bl, L2.bl, L2.nil, nilV, Value.ownBlock]
  have hnd' : ([] ++ (L.v.ownBlock.toList ++ L.ps.flatMap L2.bl)).Nodup := hnd
  refine ⟨⟨by simpa [L2.nil] using hown, fun y hy => ?_⟩, ebl, ?_, ?_⟩
  · rcases List.mem_append.1 hy with hy | hy
    · refine (h.sub y hy).of fun b hb => hg.block b ((h.sub y hy).lt b hb) (fun e => ?_)
      exact (nodup_mid hnd' (b := b) (by rw [← e]; simp)).2 (List.mem_flatMap.2 ⟨y, hy, hb⟩)
    · simp at hy; subst hy
      exact ⟨World.ownsRow_nil _ _ _ _, by simp [L2.nil]⟩
  · rw [ebl]
    rcases own_toList (n := L.ps.length + 1) (cap := cap) hat with e | ⟨e, e2⟩
    · rw [e]; exact hnd
    · rw [e]
      refine nodup_replace hnd' fun b hb => ?_
      have := h.lt b (List.mem_append_right _ (by simpa using hb))
      omega
  · intro b hb
    rw [ebl] at hb
    rcases List.mem_append.1 hb with hb | hb
    · rcases own_toList (n := L.ps.length + 1) (cap := cap) hat with e | ⟨e, e2⟩
      · rw [e] at hb; exact .inl (List.mem_append_left _ hb)
      · rw [e] at hb; simp at hb; exact .inr (by omega)
    · exact .inl (List.mem_append_right _ hb)

theorem L1.ok.keep {w w' : World} {S : Nat → Prop} {x : L1} (h : x.ok w) (k : Fr S w w') (hs : ∀ b ∈ x.bl, ¬ S b) : x.ok w' := h.of fun b hb => k.block b (h.lt b hb) (hs b hb)
theorem L2.ok.keep {w w' : World} {S : Nat → Prop} {x : L2} (h : x.ok w) (k : Fr S w w') (hs : ∀ b ∈ x.bl, ¬ S b) : x.ok w' := h.of fun b hb => k.block b (h.lt b hb) (hs b hb)

/-- One ring more in the last polygon. -/
theorem L3.ring {w w1 : World} {v : Value} {A : List L2} {x : L2} (h : L3.ok w ⟨v, A ++ [x]⟩) (hnd : (L3.bl ⟨v, A ++ [x]⟩).Nodup) {G : Nat} (hG : v.ownBlock = some G) {g cap : Nat} (hg : w.grownBy w1 x.v.ownBlock)
    (hown : w1.ownsRow 0 30 1 (.slice (some ⟨g, 0, none⟩) (x.rs.length + 1) cap) (x.rs.length + 1) (x.rs.map L1.v ++ [nilV])) (hat : x.v.ownBlock = some g ∨ g = w.heap.size) :
    L3.ok (w1.setCell ⟨G, A.length, none⟩ (.slice (some ⟨g, 0, none⟩) (x.rs.length + 1) cap)) ⟨v, A ++ [⟨.slice (some ⟨g, 0, none⟩) (x.rs.length + 1) cap, x.rs ++ [L1.nil]⟩]⟩ ∧ (L3.bl ⟨v, A ++ [⟨.slice (some ⟨g, 0, none⟩) (x.rs.length + 1) cap, x.rs ++ [L1.nil]⟩]⟩).Nodup ∧ (∀ b ∈ L3.bl ⟨v, A ++ [⟨.slice (some ⟨g, 0, none⟩) (x.rs.length + 1) cap, x.rs ++ [L1.nil]⟩]⟩, b ∈ L3.bl ⟨v, A ++ [x]⟩ ∨ w.heap.size ≤ b) := by
  have ebl : L3.bl ⟨v, A ++ [x]⟩ = (v.ownBlock.toList ++ A.flatMap L2.bl) ++ (x.v.ownBlock.toList ++ x.rs.flatMap L1.bl) := by simp [L3.bl, L2.bl]
  have ebl' : L3.bl ⟨v, A ++ [⟨.slice (some ⟨g, 0, none⟩) (x.rs.length + 1) cap, x.rs ++ [L1.nil]⟩]⟩ = (v.ownBlock.toList ++ A.flatMap L2.bl) ++ ((Value.slice (some ⟨g, 0, none⟩) (x.rs.length + 1) cap).ownBlock.toList ++ x.rs.flatMap L1.bl) := by
    simp [L3.bl, L2.bl, L1.bl, L1.nil, nilV, Value.ownBlock]
  have hlt := h.lt
  rw [ebl] at hnd hlt
  have hx : x.ok w := h.sub x (by simp)
  have hGP : G ∈ v.ownBlock.toList ++ A.flatMap L2.bl := List.mem_append_left _ (by rw [hG]; simp)
  have hGn : ∀ b ∈ x.v.ownBlock.toList ++ x.rs.flatMap L1.bl, b ≠ G := fun b hb e => (List.nodup_append.1 hnd).2.2 G hGP b hb e.symm
  have hGA : ∀ b ∈ A.flatMap L2.bl, b ≠ G := fun b hb e => by
    have h1 := (List.nodup_append.1 hnd).1
    rw [hG] at h1
    exact (List.nodup_cons.1 h1).1 (e ▸ hb)
  have fr : Fr (fun b => x.v.ownBlock = some b ∨ b = G) w (w1.setCell ⟨G, A.length, none⟩ (.slice (some ⟨g, 0, none⟩) (x.rs.length + 1) cap)) := (((Fr.of_grown hg).mono fun b _ e => .inl e)).setCell (.inr rfl) _
  refine ⟨⟨?_, fun y hy => ?_⟩, ?_, ?_⟩
  · have o1 := h.row.kept hg (own_apart h.row hx.row (by decide))
    have o2 := own_stored o1 hG (i := A.length) (by simp) (.slice (some ⟨g, 0, none⟩) (x.rs.length + 1) cap)
    rw [List.map_append, List.set_append_right _ _ (by simp), List.length_map, Nat.sub_self] at o2
    simpa using o2
  · rcases List.mem_append.1 hy with hy | hy
    · refine (h.sub y (List.mem_append_left _ hy)).keep fr fun b hb e => ?_
      have hbA : b ∈ A.flatMap L2.bl := List.mem_flatMap.2 ⟨y, hy, hb⟩
      rcases e with e | e
      · exact (nodup_mid hnd (b := b) (by rw [e]; simp)).1 (List.mem_append_right _ hbA)
      · exact hGA b hbA e
    · simp at hy; subst hy
      refine ⟨?_, fun z hz => ?_⟩
      · have := own_set hown (a := ⟨G, A.length, none⟩) (show some g ≠ some G from fun e => by
          have e : g = G := Option.some.inj e
          rcases hat with e2 | e2
          · exact hGn g (List.mem_append_left _ (by rw [e2]; simp)) e
          · have := hlt G (List.mem_append_left _ hGP); omega) (.slice (some ⟨g, 0, none⟩) (x.rs.length + 1) cap)
        simpa [L1.nil] using this
      · rcases List.mem_append.1 hz with hz | hz
        · refine (hx.sub z hz).keep fr fun b hb e => ?_
          have hbQ : b ∈ x.rs.flatMap L1.bl := List.mem_flatMap.2 ⟨z, hz, hb⟩
          rcases e with e | e
          · exact (nodup_mid hnd (b := b) (by rw [e]; simp)).2 hbQ
          · exact hGn b (List.mem_append_right _ hbQ) e
        · simp at hz; subst hz
          exact World.ownsRow_nil _ _ _ _
  · rw [ebl']
    rcases own_toList (n := x.rs.length + 1) (cap := cap) hat with e | ⟨e, e2⟩
    · rw [e]; exact hnd
    · rw [e]
      refine nodup_replace hnd fun b hb => ?_
      have := hlt b (by
        rcases List.mem_append.1 hb with hb | hb
        · exact List.mem_append_left _ hb
        · exact List.mem_append_right _ (List.mem_append_right _ hb))
      omega
  · intro b hb
    rw [ebl'] at hb
    rw [ebl]
    rcases List.mem_append.1 hb with hb | hb
    · exact .inl (List.mem_append_left _ hb)
    · rcases List.mem_append.1 hb with hb | hb
      · rcases own_toList (n := x.rs.length + 1) (cap := cap) hat with e | ⟨e, e2⟩
        · rw [e] at hb; exact .inl (List.mem_append_right _ (List.mem_append_left _ hb))
        · rw [e] at hb; simp at hb; exact .inr (by omega)
      · exact .inl (List.mem_append_right _ (List.mem_append_right _ hb))

/-- One point more in the last ring of the last polygon. -/
theorem L3.point {w w1 : World} {v xv : Value} {A : List L2} {B : List L1} {y : L1} (h : L3.ok w ⟨v, A ++ [⟨xv, B ++ [y]⟩]⟩) (hnd : (L3.bl ⟨v, A ++ [⟨xv, B ++ [y]⟩]⟩).Nodup) {G : Nat} (hG : xv.ownBlock = some G) {g cap : Nat} {p : Pnt} (hg : w.grownBy w1 y.v.ownBlock)
    (hown : w1.ownsRow 0 32 2 (.slice (some ⟨g, 0, none⟩) (y.r.length + 1) cap) (y.r.length + 1) (flat y.r ++ [.int .i64 p.1, .int .i64 p.2])) (hat : y.v.ownBlock = some g ∨ g = w.heap.size) :
    L3.ok (w1.setCell ⟨G, B.length, none⟩ (.slice (some ⟨g, 0, none⟩) (y.r.length + 1) cap)) ⟨v, A ++ [⟨xv, B ++ [⟨.slice (some ⟨g, 0, none⟩) (y.r.length + 1) cap, y.r ++ [p]⟩]⟩]⟩ ∧ (L3.bl ⟨v, A ++ [⟨xv, B ++ [⟨.slice (some ⟨g, 0, none⟩) (y.r.length + 1) cap, y.r ++ [p]⟩]⟩]⟩).Nodup ∧ (∀ b ∈ L3.bl ⟨v, A ++ [⟨xv, B ++ [⟨.slice (some ⟨g, 0, none⟩) (y.r.length + 1) cap, y.r ++ [p]⟩]⟩]⟩, b ∈ L3.bl ⟨v, A ++ [⟨xv, B ++ [y]⟩]⟩ ∨ w.heap.size ≤ b) := by
  have ebl : L3.bl ⟨v, A ++ [⟨xv, B ++ [y]⟩]⟩ = (v.ownBlock.toList ++ A.flatMap L2.bl ++ (xv.ownBlock.toList ++ B.flatMap L1.bl)) ++ (y.v.ownBlock.toList ++ []) := by simp [L3.bl, L2.bl, L1.bl]
  have ebl' : L3.bl ⟨v, A ++ [⟨xv, B ++ [⟨.slice (some ⟨g, 0, none⟩) (y.r.length + 1) cap, y.r ++ [p]⟩]⟩]⟩ = (v.ownBlock.toList ++ A.flatMap L2.bl ++ (xv.ownBlock.toList ++ B.flatMap L1.bl)) ++ ((Value.slice (some ⟨g, 0, none⟩) (y.r.length + 1) cap).ownBlock.toList ++ []) := by
    simp [L3.bl, L2.bl, L1.bl]
  have hlt := h.lt
  rw [ebl] at hnd hlt
  have hx : L2.ok w ⟨xv, B ++ [y]⟩ := h.sub _ (by simp)
  have hy : y.ok w := hx.sub y (by simp)
  have hP := (List.nodup_append.1 hnd).1
  have hGP : G ∈ v.ownBlock.toList ++ A.flatMap L2.bl ++ (xv.ownBlock.toList ++ B.flatMap L1.bl) := List.mem_append_right _ (List.mem_append_left _ (by rw [hG]; simp))
  have hGn : ∀ b ∈ y.v.ownBlock.toList, b ≠ G := fun b hb e => (List.nodup_append.1 hnd).2.2 G hGP b (List.mem_append_left _ hb) e.symm
  have hGm := nodup_mid hP (b := G) (by rw [hG]; simp)
  have fr : Fr (fun b => y.v.ownBlock = some b ∨ b = G) w (w1.setCell ⟨G, B.length, none⟩ (.slice (some ⟨g, 0, none⟩) (y.r.length + 1) cap)) := (((Fr.of_grown hg).mono fun b _ e => .inl e)).setCell (.inr rfl) _
  have hne : ∀ b, b ∈ v.ownBlock.toList ++ A.flatMap L2.bl ++ (xv.ownBlock.toList ++ B.flatMap L1.bl) → b ≠ G → ¬ (y.v.ownBlock = some b ∨ b = G) := fun b hb hb2 e => by
    rcases e with e | e
    · exact (nodup_mid hnd (b := b) (by rw [e]; simp)).1 hb
    · exact hb2 e
  refine ⟨⟨?_, fun z hz => ?_⟩, ?_, ?_⟩
  · have := own_fr h.row fr (fun b e => hne b (List.mem_append_left _ (List.mem_append_left _ (by rw [e]; simp))) (fun e2 => hGm.1 (List.mem_append_left _ (by rw [e, e2]; simp))))
    simpa using this
  · rcases List.mem_append.1 hz with hz | hz
    · refine (h.sub z (List.mem_append_left _ hz)).keep fr fun b hb => ?_
      have hbA : b ∈ A.flatMap L2.bl := List.mem_flatMap.2 ⟨z, hz, hb⟩
      exact hne b (List.mem_append_left _ (List.mem_append_right _ hbA)) (fun e => hGm.1 (List.mem_append_right _ (e ▸ hbA)))
    · simp at hz; subst hz
      refine ⟨?_, fun t ht => ?_⟩
      · have o1 := hx.row.kept hg (own_apart hx.row hy (by decide))
        have o2 := own_stored o1 hG (i := B.length) (by simp) (.slice (some ⟨g, 0, none⟩) (y.r.length + 1) cap)
        rw [List.map_append, List.set_append_right _ _ (by simp), List.length_map, Nat.sub_self] at o2
        simpa using o2
      · rcases List.mem_append.1 ht with ht | ht
        · refine (hx.sub t (List.mem_append_left _ ht)).keep fr fun b hb => ?_
          have hbB : b ∈ B.flatMap L1.bl := List.mem_flatMap.2 ⟨t, ht, hb⟩
          exact hne b (List.mem_append_right _ (List.mem_append_right _ hbB)) (fun e => hGm.2 (e ▸ hbB))
        · simp at ht; subst ht
          have := own_set hown (a := ⟨G, B.length, none⟩) (show some g ≠ some G from fun e => by
            have e : g = G := Option.some.inj e
            rcases hat with e2 | e2
            · exact hGn g (by rw [e2]; simp) e
            · have := hlt G (List.mem_append_left _ hGP); omega) (.slice (some ⟨g, 0, none⟩) (y.r.length + 1) cap)
          show World.ownsRow _ _ _ _ _ (y.r ++ [p]).length (flat (y.r ++ [p]))
          rw [flat_append, List.length_append]
          exact this
  · rw [ebl']
    rcases own_toList (n := y.r.length + 1) (cap := cap) hat with e | ⟨e, e2⟩
    · rw [e]; exact hnd
    · rw [e]
      refine nodup_replace hnd fun b hb => ?_
      have := hlt b (by
        rcases List.mem_append.1 hb with hb | hb
        · exact List.mem_append_left _ hb
        · cases hb)
      omega
  · intro b hb
    rw [ebl'] at hb
    rw [ebl]
    rcases List.mem_append.1 hb with hb | hb
    · exact .inl (List.mem_append_left _ hb)
    · rcases List.mem_append.1 hb with hb | hb
      · rcases own_toList (n := y.r.length + 1) (cap := cap) hat with e | ⟨e, e2⟩
        · rw [e] at hb; exact .inl (List.mem_append_right _ (List.mem_append_left _ hb))
        · rw [e] at hb; simp at hb; exact .inr (by omega)
      · cases hb

theorem tot_poly (L : L3) (v : Value) : tot (L3.m ⟨v, L.ps ++ [L2.nil]⟩) = tot L.m + 1 := by
  simp [tot, L3.m, L2.nil, L2.pts, Pl.nR, Pl.nP, Pl.nPl]; omega
theorem tot_ring (v v' : Value) (A : List L2) (x : L2) : tot (L3.m ⟨v, A ++ [⟨v', x.rs ++ [L1.nil]⟩]⟩) = tot (L3.m ⟨v, A ++ [x]⟩) + 1 := by
  simp [tot, L3.m, L1.nil, L2.pts, Pl.nR, Pl.nP, Pl.nPl]; omega
theorem tot_point (v xv v' : Value) (A : List L2) (B : List L1) (y : L1) (p : Pnt) : tot (L3.m ⟨v, A ++ [⟨xv, B ++ [⟨v', y.r ++ [p]⟩]⟩]⟩) = tot (L3.m ⟨v, A ++ [⟨xv, B ++ [y]⟩]⟩) + 1 := by
  simp [tot, L3.m, L2.pts, Pl.nR, Pl.nP, Pl.nPl]; omega

end Go.Proofs.YtcclepohmhdpbaaGreatDoor
