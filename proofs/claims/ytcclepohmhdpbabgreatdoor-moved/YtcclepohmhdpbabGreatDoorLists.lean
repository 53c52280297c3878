import Derived.Test.YtcclepohmhdpbabGreatDoorTxB
import Derived.Test.YtcclepohmhdpbabGreatDoorWalkD
namespace Go.Proofs.YtcclepohmhdpbabGreatDoor
set_option linter.all false
open Go.RowKit Go.Deep
end Go.Proofs.YtcclepohmhdpbabGreatDoor

namespace Go.Proofs.YtcclepohmhdpbabGreatDoor
set_option linter.all false
open Go.RowKit Go.Deep
theorem L3.ok.types {w : World} {L : L3} (h : L.ok w) : ∀ b ∈ L.bl, ∃ c t, w.heap[b]? = some (.cells c t (0, 0)) ∧ (t = 45 ∨ t = 46 ∨ t = 48) := by
  intro b hb
  simp only [L3.bl, L2.bl, L1.bl, List.mem_append, List.mem_flatMap, Option.mem_toList] at hb
  rcases hb with hb | ⟨x, hx, hb | ⟨y, hy, hb⟩⟩
  · obtain ⟨c, hc⟩ := own_type h.row hb
    exact ⟨c, _, hc, .inl rfl⟩
  · obtain ⟨c, hc⟩ := own_type (h.sub x hx).row hb
    exact ⟨c, _, hc, .inr (.inl rfl)⟩
  · obtain ⟨c, hc⟩ := own_type ((h.sub x hx).sub y hy) hb
    exact ⟨c, _, hc, .inr (.inr rfl)⟩
end Go.Proofs.YtcclepohmhdpbabGreatDoor

namespace Go.Proofs.YtcclepohmhdpbabGreatDoor
set_option linter.all false
open Go.RowKit Go.Deep
theorem own_stored {w : World} {base : Nat} {e : TypeId} {v : Value} {n : Nat} {xs : List Value} (h : w.ownsRow base e 1 v n xs) {g : Nat} (hg : v.ownBlock = some g) {i : Nat} (hi : i < n) (u : Value) : (w.setCell ⟨g, i, none⟩ u).ownsRow base e 1 v n (xs.set i u) := by
  refine ⟨by rw [List.length_set]; exact h.1, ?_⟩
  rcases h.2 with ⟨rfl, _⟩ | ⟨g', cap, cur, rfl, hb, hh, h1, h2, h3, h4⟩
  · cases hg
  · cases hg
    refine .inr ⟨_, cap, cur.setIfInBounds i u, rfl, hb, ?_, h1, h2, by simpa using h3, ?_⟩
    · simp [World.setCell, Array.getElem?_modify, hh]
    · rw [Array.toList_setIfInBounds, ← h4, List.take_set]
theorem own_frozen {w : World} {base : Nat} {e : TypeId} {size : Nat} {v : Value} {n : Nat} {xs : List Value} (h : w.ownsRow base e size v n xs) {g : Nat} (hg : v.ownBlock = some g) (i : Nat) : w.frozen? ⟨g, i, none⟩ = false := by
  obtain ⟨c, hc⟩ := own_type h hg
  simp [World.frozen?, hc]
theorem nodup_replace {P Q o : List Nat} {g : Nat} (h : (P ++ (o ++ Q)).Nodup) (hg : ∀ b ∈ P ++ Q, b ≠ g) : (P ++ ([g] ++ Q)).Nodup := by
  rw [List.nodup_append] at h ⊢
  obtain ⟨h1, h2, h3⟩ := h
  rw [List.nodup_append] at h2
  obtain ⟨h4, h5, h6⟩ := h2
  refine ⟨h1, List.nodup_append.2 ⟨by simp, h5, fun a ha b hb => ?_⟩, fun a ha b hb => ?_⟩
  · simp at ha; subst ha
    exact fun e => hg b (List.mem_append_right _ hb) e.symm
  · rcases List.mem_append.1 hb with hb | hb
    · simp at hb; subst hb
      exact hg a (List.mem_append_left _ ha)
    · exact h3 a ha b (List.mem_append_right _ hb)
theorem nodup_mid {P Q o : List Nat} (h : (P ++ (o ++ Q)).Nodup) {b : Nat} (ho : b ∈ o) : b ∉ P ∧ b ∉ Q := by
  rw [List.nodup_append] at h
  obtain ⟨h1, h2, h3⟩ := h
  rw [List.nodup_append] at h2
  exact ⟨fun e => h3 b e b (List.mem_append_left _ ho) rfl, fun e => h2.2.2 b ho b e rfl⟩
def nilV : Value := .slice none 0 0
def L3.nil : L3 := ⟨nilV, []⟩
def L2.nil : L2 := ⟨nilV, []⟩
def L1.nil : L1 := ⟨nilV, []⟩
theorem own_toList {v : Value} {g : Nat} {w0 : World} {n cap : Nat} (hat : v.ownBlock = some g ∨ g = w0.heap.size) : (Value.slice (some ⟨g, 0, none⟩) n cap).ownBlock.toList = v.ownBlock.toList ∨ ((Value.slice (some ⟨g, 0, none⟩) n cap).ownBlock.toList = [g] ∧ g = w0.heap.size) := by
  rcases hat with e | e
  · exact .inl (by rw [e]; rfl)
  · exact .inr ⟨rfl, e⟩
theorem L3.poly {w w1 : World} {L : L3} (h : L.ok w) (hnd : L.bl.Nodup) {g cap : Nat} (hg : w.grownBy w1 L.v.ownBlock) (hown : w1.ownsRow 0 45 1 (.slice (some ⟨g, 0, none⟩) (L.ps.length + 1) cap) (L.ps.length + 1) (L.ps.map L2.v ++ [nilV])) (hat : L.v.ownBlock = some g ∨ g = w.heap.size) :
    L3.ok w1 ⟨.slice (some ⟨g, 0, none⟩) (L.ps.length + 1) cap, L.ps ++ [L2.nil]⟩ ∧ L3.bl ⟨.slice (some ⟨g, 0, none⟩) (L.ps.length + 1) cap, L.ps ++ [L2.nil]⟩ = (Value.slice (some ⟨g, 0, none⟩) (L.ps.length + 1) cap).ownBlock.toList ++ L.ps.flatMap L2.bl ∧ (L3.bl ⟨.slice (some ⟨g, 0, none⟩) (L.ps.length + 1) cap, L.ps ++ [L2.nil]⟩).Nodup ∧ (∀ b ∈ L3.bl ⟨.slice (some ⟨g, 0, none⟩) (L.ps.length + 1) cap, L.ps ++ [L2.nil]⟩, b ∈ L.bl ∨ w.heap.size ≤ b) := by
  have ebl : L3.bl ⟨.slice (some ⟨g, 0, none⟩) (L.ps.length + 1) cap, L.ps ++ [L2.nil]⟩ = (Value.slice (some ⟨g, 0, none⟩) (L.ps.length + 1) cap).ownBlock.toList ++ L.ps.flatMap L2.bl := by
    simp [L3.bl, L2.bl, L2.nil, nilV, Value.ownBlock]
  have hnd' : ([] ++ (L.v.ownBlock.toList ++ L.ps.flatMap L2.bl)).Nodup := hnd
  refine ⟨⟨by simpa [L2.nil] using hown, fun y hy => ?_⟩, ebl, ?_, ?_⟩
  · rcases List.mem_append.1 hy with hy | hy
    · refine (h.sub y hy).of fun b hb => hg.block b ((h.sub y hy).lt b hb) (fun e => ?_)
      exact (nodup_mid hnd' (b := b) (by rw [← e]; simp)).2 (List.mem_flatMap.2 ⟨y, hy, hb⟩)
    · simp at hy; subst hy
      exact ⟨World.ownsRow_nil _ _ _ _, by simp [L2.nil]⟩
  · rw [ebl]
    rcases own_toList (n := L.ps.length + 1) (cap := cap) hat with e | ⟨e, e2⟩
    · rw [e]; exact hnd
    · rw [e]
      refine nodup_replace hnd' fun b hb => ?_
      have := h.lt b (List.mem_append_right _ (by simpa using hb))
      omega
  · intro b hb
    rw [ebl] at hb
    rcases List.mem_append.1 hb with hb | hb
    · rcases own_toList (n := L.ps.length + 1) (cap := cap) hat with e | ⟨e, e2⟩
      · rw [e] at hb; exact .inl (List.mem_append_left _ hb)
      · rw [e] at hb; simp at hb; exact .inr (by omega)
    · exact .inl (List.mem_append_right _ hb)
theorem L1.ok.keep {w w' : World} {S : Nat → Prop} {x : L1} (h : x.ok w) (k : Fr S w w') (hs : ∀ b ∈ x.bl, ¬ S b) : x.ok w' := h.of fun b hb => k.block b (h.lt b hb) (hs b hb)
theorem L2.ok.keep {w w' : World} {S : Nat → Prop} {x : L2} (h : x.ok w) (k : Fr S w w') (hs : ∀ b ∈ x.bl, ¬ S b) : x.ok w' := h.of fun b hb => k.block b (h.lt b hb) (hs b hb)
theorem L3.ring {w w1 : World} {v : Value} {A : List L2} {x : L2} (h : L3.ok w ⟨v, A ++ [x]⟩) (hnd : (L3.bl ⟨v, A ++ [x]⟩).Nodup) {G : Nat} (hG : v.ownBlock = some G) {g cap : Nat} (hg : w.grownBy w1 x.v.ownBlock)
    (hown : w1.ownsRow 0 46 1 (.slice (some ⟨g, 0, none⟩) (x.rs.length + 1) cap) (x.rs.length + 1) (x.rs.map L1.v ++ [nilV])) (hat : x.v.ownBlock = some g ∨ g = w.heap.size) :
    L3.ok (w1.setCell ⟨G, A.length, none⟩ (.slice (some ⟨g, 0, none⟩) (x.rs.length + 1) cap)) ⟨v, A ++ [⟨.slice (some ⟨g, 0, none⟩) (x.rs.length + 1) cap, x.rs ++ [L1.nil]⟩]⟩ ∧ (L3.bl ⟨v, A ++ [⟨.slice (some ⟨g, 0, none⟩) (x.rs.length + 1) cap, x.rs ++ [L1.nil]⟩]⟩).Nodup ∧ (∀ b ∈ L3.bl ⟨v, A ++ [⟨.slice (some ⟨g, 0, none⟩) (x.rs.length + 1) cap, x.rs ++ [L1.nil]⟩]⟩, b ∈ L3.bl ⟨v, A ++ [x]⟩ ∨ w.heap.size ≤ b) := by
  have ebl : L3.bl ⟨v, A ++ [x]⟩ = (v.ownBlock.toList ++ A.flatMap L2.bl) ++ (x.v.ownBlock.toList ++ x.rs.flatMap L1.bl) := by simp [L3.bl, L2.bl]
  have ebl' : L3.bl ⟨v, A ++ [⟨.slice (some ⟨g, 0, none⟩) (x.rs.length + 1) cap, x.rs ++ [L1.nil]⟩]⟩ = (v.ownBlock.toList ++ A.flatMap L2.bl) ++ ((Value.slice (some ⟨g, 0, none⟩) (x.rs.length + 1) cap).ownBlock.toList ++ x.rs.flatMap L1.bl) := by
    simp [L3.bl, L2.bl, L1.bl, L1.nil, nilV, Value.ownBlock]
  have hlt := h.lt
  rw [ebl] at hnd hlt
  have hx : x.ok w := h.sub x (by simp)
  have hGP : G ∈ v.ownBlock.toList ++ A.flatMap L2.bl := List.mem_append_left _ (by rw [hG]; simp)
  have hGn : ∀ b ∈ x.v.ownBlock.toList ++ x.rs.flatMap L1.bl, b ≠ G := fun b hb e => (List.nodup_append.1 hnd).2.2 G hGP b hb e.symm
  have hGA : ∀ b ∈ A.flatMap L2.bl, b ≠ G := fun b hb e => by
    have h1 := (List.nodup_append.1 hnd).1
    rw [hG] at h1
    exact (List.nodup_cons.1 h1).1 (e ▸ hb)
  have fr : Fr (fun b => x.v.ownBlock = some b ∨ b = G) w (w1.setCell ⟨G, A.length, none⟩ (.slice (some ⟨g, 0, none⟩) (x.rs.length + 1) cap)) := (((Fr.of_grown hg).mono fun b _ e => .inl e)).setCell (.inr rfl) _
  refine ⟨⟨?_, fun y hy => ?_⟩, ?_, ?_⟩
  · have o1 := h.row.kept hg (own_apart h.row hx.row (by decide))
    have o2 := own_stored o1 hG (i := A.length) (by simp) (.slice (some ⟨g, 0, none⟩) (x.rs.length + 1) cap)
    rw [List.map_append, List.set_append_right _ _ (by simp), List.length_map, Nat.sub_self] at o2
    simpa using o2
  · rcases List.mem_append.1 hy with hy | hy
    · refine (h.sub y (List.mem_append_left _ hy)).keep fr fun b hb e => ?_
      have hbA : b ∈ A.flatMap L2.bl := List.mem_flatMap.2 ⟨y, hy, hb⟩
      rcases e with e | e
      · exact (nodup_mid hnd (b := b) (by rw [e]; simp)).1 (List.mem_append_right _ hbA)
      · exact hGA b hbA e
    · simp at hy; subst hy
      refine ⟨?_, fun z hz => ?_⟩
      · have := own_set hown (a := ⟨G, A.length, none⟩) (show some g ≠ some G from fun e => by
          have e : g = G := Option.some.inj e
          rcases hat with e2 | e2
          · exact hGn g (List.mem_append_left _ (by rw [e2]; simp)) e
          · have := hlt G (List.mem_append_left _ hGP); omega) (.slice (some ⟨g, 0, none⟩) (x.rs.length + 1) cap)
        simpa [L1.nil] using this
      · rcases List.mem_append.1 hz with hz | hz
        · refine (hx.sub z hz).keep fr fun b hb e => ?_
          have hbQ : b ∈ x.rs.flatMap L1.bl := List.mem_flatMap.2 ⟨z, hz, hb⟩
          rcases e with e | e
          · exact (nodup_mid hnd (b := b) (by rw [e]; simp)).2 hbQ
          · exact hGn b (List.mem_append_right _ hbQ) e
        · simp at hz; subst hz
          exact World.ownsRow_nil _ _ _ _
  · rw [ebl']
    rcases own_toList (n := x.rs.length + 1) (cap := cap) hat with e | ⟨e, e2⟩
    · rw [e]; exact hnd
    · rw [e]
      refine nodup_replace hnd fun b hb => ?_
      have := hlt b (by
        rcases List.mem_append.1 hb with hb | hb
        · exact List.mem_append_left _ hb
        · exact List.mem_append_right _ (List.mem_append_right _ hb))
      omega
  · intro b hb
    rw [ebl'] at hb
    rw [ebl]
    rcases List.mem_append.1 hb with hb | hb
    · exact .inl (List.mem_append_left _ hb)
    · rcases List.mem_append.1 hb with hb | hb
      · rcases own_toList (n := x.rs.length + 1) (cap := cap) hat with e | ⟨e, e2⟩
        · rw [e] at hb; exact .inl (List.mem_append_right _ (List.mem_append_left _ hb))
        · rw [e] at hb; simp at hb; exact .inr (by omega)
      · exact .inl (List.mem_append_right _ (List.mem_append_right _ hb))
theorem L3.point {w w1 : World} {v xv : Value} {A : List L2} {B : List L1} {y : L1} (h : L3.ok w ⟨v, A ++ [⟨xv, B ++ [y]⟩]⟩) (hnd : (L3.bl ⟨v, A ++ [⟨xv, B ++ [y]⟩]⟩).Nodup) {G : Nat} (hG : xv.ownBlock = some G) {g cap : Nat} {p : Pnt} (hg : w.grownBy w1 y.v.ownBlock)
    (hown : w1.ownsRow 0 48 2 (.slice (some ⟨g, 0, none⟩) (y.r.length + 1) cap) (y.r.length + 1) (flat y.r ++ [.int .i64 p.1, .int .i64 p.2])) (hat : y.v.ownBlock = some g ∨ g = w.heap.size) :
    L3.ok (w1.setCell ⟨G, B.length, none⟩ (.slice (some ⟨g, 0, none⟩) (y.r.length + 1) cap)) ⟨v, A ++ [⟨xv, B ++ [⟨.slice (some ⟨g, 0, none⟩) (y.r.length + 1) cap, y.r ++ [p]⟩]⟩]⟩ ∧ (L3.bl ⟨v, A ++ [⟨xv, B ++ [⟨.slice (some ⟨g, 0, none⟩) (y.r.length + 1) cap, y.r ++ [p]⟩]⟩]⟩).Nodup ∧ (∀ b ∈ L3.bl ⟨v, A ++ [⟨xv, B ++ [⟨.slice (some ⟨g, 0, none⟩) (y.r.length + 1) cap, y.r ++ [p]⟩]⟩]⟩, b ∈ L3.bl ⟨v, A ++ [⟨xv, B ++ [y]⟩]⟩ ∨ w.heap.size ≤ b) := by
  have ebl : L3.bl ⟨v, A ++ [⟨xv, B ++ [y]⟩]⟩ = (v.ownBlock.toList ++ A.flatMap L2.bl ++ (xv.ownBlock.toList ++ B.flatMap L1.bl)) ++ (y.v.ownBlock.toList ++ []) := by simp [L3.bl, L2.bl, L1.bl]
  have ebl' : L3.bl ⟨v, A ++ [⟨xv, B ++ [⟨.slice (some ⟨g, 0, none⟩) (y.r.length + 1) cap, y.r ++ [p]⟩]⟩]⟩ = (v.ownBlock.toList ++ A.flatMap L2.bl ++ (xv.ownBlock.toList ++ B.flatMap L1.bl)) ++ ((Value.slice (some ⟨g, 0, none⟩) (y.r.length + 1) cap).ownBlock.toList ++ []) := by
    simp [L3.bl, L2.bl, L1.bl]
  have hlt := h.lt
  rw [ebl] at hnd hlt
  have hx : L2.ok w ⟨xv, B ++ [y]⟩ := h.sub _ (by simp)
  have hy : y.ok w := hx.sub y (by simp)
  have hP := (List.nodup_append.1 hnd).1
  have hGP : G ∈ v.ownBlock.toList ++ A.flatMap L2.bl ++ (xv.ownBlock.toList ++ B.flatMap L1.bl) := List.mem_append_right _ (List.mem_append_left _ (by rw [hG]; simp))
  have hGn : ∀ b ∈ y.v.ownBlock.toList, b ≠ G := fun b hb e => (List.nodup_append.1 hnd).2.2 G hGP b (List.mem_append_left _ hb) e.symm
  have hGm := nodup_mid hP (b := G) (by rw [hG]; simp)
  have fr : Fr (fun b => y.v.ownBlock = some b ∨ b = G) w (w1.setCell ⟨G, B.length, none⟩ (.slice (some ⟨g, 0, none⟩) (y.r.length + 1) cap)) := (((Fr.of_grown hg).mono fun b _ e => .inl e)).setCell (.inr rfl) _
  have hne : ∀ b, b ∈ v.ownBlock.toList ++ A.flatMap L2.bl ++ (xv.ownBlock.toList ++ B.flatMap L1.bl) → b ≠ G → ¬ (y.v.ownBlock = some b ∨ b = G) := fun b hb hb2 e => by
    rcases e with e | e
    · exact (nodup_mid hnd (b := b) (by rw [e]; simp)).1 hb
    · exact hb2 e
  refine ⟨⟨?_, fun z hz => ?_⟩, ?_, ?_⟩
  · have := own_fr h.row fr (fun b e => hne b (List.mem_append_left _ (List.mem_append_left _ (by rw [e]; simp))) (fun e2 => hGm.1 (List.mem_append_left _ (by rw [e, e2]; simp))))
    simpa using this
  · rcases List.mem_append.1 hz with hz | hz
    · refine (h.sub z (List.mem_append_left _ hz)).keep fr fun b hb => ?_
      have hbA : b ∈ A.flatMap L2.bl := List.mem_flatMap.2 ⟨z, hz, hb⟩
      exact hne b (List.mem_append_left _ (List.mem_append_right _ hbA)) (fun e => hGm.1 (List.mem_append_right _ (e ▸ hbA)))
    · simp at hz; subst hz
      refine ⟨?_, fun t ht => ?_⟩
      · have o1 := hx.row.kept hg (own_apart hx.row hy (by decide))
        have o2 := own_stored o1 hG (i := B.length) (by simp) (.slice (some ⟨g, 0, none⟩) (y.r.length + 1) cap)
        rw [List.map_append, List.set_append_right _ _ (by simp), List.length_map, Nat.sub_self] at o2
        simpa using o2
      · rcases List.mem_append.1 ht with ht | ht
        · refine (hx.sub t (List.mem_append_left _ ht)).keep fr fun b hb => ?_
          have hbB : b ∈ B.flatMap L1.bl := List.mem_flatMap.2 ⟨t, ht, hb⟩
          exact hne b (List.mem_append_right _ (List.mem_append_right _ hbB)) (fun e => hGm.2 (e ▸ hbB))
        · simp at ht; subst ht
          have := own_set hown (a := ⟨G, B.length, none⟩) (show some g ≠ some G from fun e => by
            have e : g = G := Option.some.inj e
            rcases hat with e2 | e2
            · exact hGn g (by rw [e2]; simp) e
            · have := hlt G (List.mem_append_left _ hGP); omega) (.slice (some ⟨g, 0, none⟩) (y.r.length + 1) cap)
          show World.ownsRow _ _ _ _ _ (y.r ++ [p]).length (flat (y.r ++ [p]))
          rw [flat_append, List.length_append]
          exact this
  · rw [ebl']
    rcases own_toList (n := y.r.length + 1) (cap := cap) hat with e | ⟨e, e2⟩
    · rw [e]; exact hnd
    · rw [e]
      refine nodup_replace hnd fun b hb => ?_
      have := hlt b (by
        rcases List.mem_append.1 hb with hb | hb
        · exact List.mem_append_left _ hb
        · cases hb)
      omega
  · intro b hb
    rw [ebl'] at hb
    rw [ebl]
    rcases List.mem_append.1 hb with hb | hb
    · exact .inl (List.mem_append_left _ hb)
    · rcases List.mem_append.1 hb with hb | hb
      · rcases own_toList (n := y.r.length + 1) (cap := cap) hat with e | ⟨e, e2⟩
        · rw [e] at hb; exact .inl (List.mem_append_right _ (List.mem_append_left _ hb))
        · rw [e] at hb; simp at hb; exact .inr (by omega)
      · cases hb
end Go.Proofs.YtcclepohmhdpbabGreatDoor
