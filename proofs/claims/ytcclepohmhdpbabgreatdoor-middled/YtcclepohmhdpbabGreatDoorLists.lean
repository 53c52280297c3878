import Derived.Test.YtcclepohmhdpbabGreatDoorNoted
import Derived.Deep.DeepCutAuto
import Derived.Test.YtcclepohmhdpbabGreatDoorTxF
namespace Go.Proofs.YtcclepohmhdpbabGreatDoor
set_option linter.all false
open Go.RowKit Go.Deep
end Go.Proofs.YtcclepohmhdpbabGreatDoor

namespace Go.Proofs.YtcclepohmhdpbabGreatDoor
set_option linter.all false
open Go.RowKit Go.Deep
end Go.Proofs.YtcclepohmhdpbabGreatDoor

namespace Go.Proofs.YtcclepohmhdpbabGreatDoor
set_option linter.all false
open Go.RowKit Go.Deep
end Go.Proofs.YtcclepohmhdpbabGreatDoor

namespace Go.Proofs.YtcclepohmhdpbabGreatDoor
set_option linter.all false
open Go.RowKit Go.Deep
theorem own_stored {w : World} {base : Nat} {e : TypeId} {v : Value} {n : Nat} {xs : List Value} (h : w.ownsRow base e 1 v n xs) {g : Nat} (hg : v.ownBlock = some g) {i : Nat} (hi : i < n) (u : Value) : (w.setCell ⟨g, i, none⟩ u).ownsRow base e 1 v n (xs.set i u) := by
 refine ⟨by rw [List.length_set]; exact h.1, ?_⟩
 rcases h.2 with ⟨rfl, _⟩ | ⟨g', cap, cur, rfl, hb, hh, h1, h2, h3, h4⟩
 ·cases hg
 ·cases hg
  refine .inr ⟨_, cap, cur.setIfInBounds i u, rfl, hb, ?_, h1, h2, by simpa using h3, ?_⟩
  ·simp [World.setCell, Array.getElem?_modify, hh]
  ·rw [Array.toList_setIfInBounds, ← h4, List.take_set]
theorem own_frozen {w : World} {base : Nat} {e : TypeId} {size : Nat} {v : Value} {n : Nat} {xs : List Value} (h : w.ownsRow base e size v n xs) {g : Nat} (hg : v.ownBlock = some g) (i : Nat) : w.frozen? ⟨g, i, none⟩ = false := by
 obtain ⟨c, hc⟩ := own_type h hg
 simp [World.frozen?, hc]
theorem nodup_replace {P Q o : List Nat} {g : Nat} (h : (P ++ (o ++ Q)).Nodup) (hg : ∀ b ∈ P ++ Q, b ≠ g) : (P ++ ([g] ++ Q)).Nodup := by
 rw [List.nodup_append] at h ⊢
 obtain ⟨h1, h2, h3⟩ := h
 rw [List.nodup_append] at h2
 obtain ⟨h4, h5, h6⟩ := h2
 refine ⟨h1, List.nodup_append.2 ⟨by simp, h5, fun a ha b hb => ?_⟩, fun a ha b hb => ?_⟩
 ·simp at ha; subst ha
  exact fun e => hg b (List.mem_append_right _ hb) e.symm
 ·rcases List.mem_append.1 hb with hb | hb
  ·simp at hb; subst hb
   exact hg a (List.mem_append_left _ ha)
  ·exact h3 a ha b (List.mem_append_right _ hb)
theorem nodup_mid {P Q o : List Nat} (h : (P ++ (o ++ Q)).Nodup) {b : Nat} (ho : b ∈ o) : b ∉ P ∧ b ∉ Q := by
 rw [List.nodup_append] at h
 obtain ⟨h1, h2, h3⟩ := h
 rw [List.nodup_append] at h2
 exact ⟨fun e => h3 b e b (List.mem_append_left _ ho) rfl, fun e => h2.2.2 b ho b e rfl⟩
def nilV : Value := .slice none 0 0
def L3.nil : L3 := ⟨nilV, []⟩
def L2.nil : L2 := ⟨nilV, []⟩
def L1.nil : L1 := ⟨nilV, []⟩
theorem own_toList {v : Value} {g : Nat} {w0 : World} {n cap : Nat} (hat : v.ownBlock = some g ∨ g = w0.heap.size) : (Value.slice (some ⟨g, 0, none⟩) n cap).ownBlock.toList = v.ownBlock.toList ∨ ((Value.slice (some ⟨g, 0, none⟩) n cap).ownBlock.toList = [g] ∧ g = w0.heap.size) := by
 rcases hat with e | e
 ·exact .inl (by rw [e]; rfl)
 ·exact .inr ⟨rfl, e⟩
theorem L1.ok.keep {w w' : World} {S : Nat → Prop} {x : L1} (h : x.ok w) (k : Fr S w w') (hs : ∀ b ∈ x.bl, ¬ S b) : x.ok w' := h.of fun b hb => k.block b (h.lt b hb) (hs b hb)
theorem L2.ok.keep {w w' : World} {S : Nat → Prop} {x : L2} (h : x.ok w) (k : Fr S w w') (hs : ∀ b ∈ x.bl, ¬ S b) : x.ok w' := h.of fun b hb => k.block b (h.lt b hb) (hs b hb)
theorem L3.ring {w w1 : World} {v : Value} {A : List L2} {x : L2} (h : L3.ok w ⟨v, A ++ [x]⟩) (hnd : (L3.bl ⟨v, A ++ [x]⟩).Nodup) {G : Nat} (hG : v.ownBlock = some G) {g cap : Nat} (hg : w.grownBy w1 x.v.ownBlock)
  (hown : w1.ownsRow 0 46 1 (.slice (some ⟨g, 0, none⟩) (x.rs.length + 1) cap) (x.rs.length + 1) (x.rs.map L1.v ++ [nilV])) (hat : x.v.ownBlock = some g ∨ g = w.heap.size) :
  L3.ok (w1.setCell ⟨G, A.length, none⟩ (.slice (some ⟨g, 0, none⟩) (x.rs.length + 1) cap)) ⟨v, A ++ [⟨.slice (some ⟨g, 0, none⟩) (x.rs.length + 1) cap, x.rs ++ [L1.nil]⟩]⟩ ∧ (L3.bl ⟨v, A ++ [⟨.slice (some ⟨g, 0, none⟩) (x.rs.length + 1) cap, x.rs ++ [L1.nil]⟩]⟩).Nodup ∧ (∀ b ∈ L3.bl ⟨v, A ++ [⟨.slice (some ⟨g, 0, none⟩) (x.rs.length + 1) cap, x.rs ++ [L1.nil]⟩]⟩, b ∈ L3.bl ⟨v, A ++ [x]⟩ ∨ w.heap.size ≤ b) := by
 have ebl : L3.bl ⟨v, A ++ [x]⟩ = (v.ownBlock.toList ++ A.flatMap L2.bl) ++ (x.v.ownBlock.toList ++ x.rs.flatMap L1.bl) := by simp [L3.bl, L2.bl]
 have ebl' : L3.bl ⟨v, A ++ [⟨.slice (some ⟨g, 0, none⟩) (x.rs.length + 1) cap, x.rs ++ [L1.nil]⟩]⟩ = (v.ownBlock.toList ++ A.flatMap L2.bl) ++ ((Value.slice (some ⟨g, 0, none⟩) (x.rs.length + 1) cap).ownBlock.toList ++ x.rs.flatMap L1.bl) := by
  simp [L3.bl, L2.bl, L1.bl, L1.nil, nilV, Value.ownBlock]
 have hlt := h.lt
 rw [ebl] at hnd hlt
 have hx : x.ok w := h.sub x (by simp)
 have hGP : G ∈ v.ownBlock.toList ++ A.flatMap L2.bl := List.mem_append_left _ (by rw [hG]; simp)
 have hGn : ∀ b ∈ x.v.ownBlock.toList ++ x.rs.flatMap L1.bl, b ≠ G := fun b hb e => (List.nodup_append.1 hnd).2.2 G hGP b hb e.symm
 have hGA : ∀ b ∈ A.flatMap L2.bl, b ≠ G := fun b hb e => by
  have h1 := (List.nodup_append.1 hnd).1
  rw [hG] at h1
  exact (List.nodup_cons.1 h1).1 (e ▸ hb)
 have fr : Fr (fun b => x.v.ownBlock = some b ∨ b = G) w (w1.setCell ⟨G, A.length, none⟩ (.slice (some ⟨g, 0, none⟩) (x.rs.length + 1) cap)) := (((Fr.of_grown hg).mono fun b _ e => .inl e)).setCell (.inr rfl) _
 refine ⟨⟨?_, fun y hy => ?_⟩, ?_, ?_⟩
 ·have o1 := h.row.kept hg (own_apart h.row hx.row (by decide))
  have o2 := own_stored o1 hG (i := A.length) (by simp) (.slice (some ⟨g, 0, none⟩) (x.rs.length + 1) cap)
  rw [List.map_append, List.set_append_right _ _ (by simp), List.length_map, Nat.sub_self] at o2
  simpa using o2
 ·rcases List.mem_append.1 hy with hy | hy
  ·refine (h.sub y (List.mem_append_left _ hy)).keep fr fun b hb e => ?_
   have hbA : b ∈ A.flatMap L2.bl := List.mem_flatMap.2 ⟨y, hy, hb⟩
   rcases e with e | e
   ·exact (nodup_mid hnd (b := b) (by rw [e]; simp)).1 (List.mem_append_right _ hbA)
   ·exact hGA b hbA e
  ·simp at hy; subst hy
   refine ⟨?_, fun z hz => ?_⟩
   ·have := own_set hown (a := ⟨G, A.length, none⟩) (show some g ≠ some G from fun e => by
     have e : g = G := Option.some.inj e
     rcases hat with e2 | e2
     ·exact hGn g (List.mem_append_left _ (by rw [e2]; simp)) e
     ·have := hlt G (List.mem_append_left _ hGP); omega) (.slice (some ⟨g, 0, none⟩) (x.rs.length + 1) cap)
    simpa [L1.nil] using this
   ·rcases List.mem_append.1 hz with hz | hz
    ·refine (hx.sub z hz).keep fr fun b hb e => ?_
     have hbQ : b ∈ x.rs.flatMap L1.bl := List.mem_flatMap.2 ⟨z, hz, hb⟩
     rcases e with e | e
     ·exact (nodup_mid hnd (b := b) (by rw [e]; simp)).2 hbQ
     ·exact hGn b (List.mem_append_right _ hbQ) e
    ·simp at hz; subst hz
     exact World.ownsRow_nil _ _ _ _
 ·rw [ebl']
  rcases own_toList (n := x.rs.length + 1) (cap := cap) hat with e | ⟨e, e2⟩
  ·rw [e]; exact hnd
  ·rw [e]
   refine nodup_replace hnd fun b hb => ?_
   have := hlt b (by
    rcases List.mem_append.1 hb with hb | hb
    ·exact List.mem_append_left _ hb
    ·exact List.mem_append_right _ (List.mem_append_right _ hb))
   omega
 ·intro b hb
  rw [ebl'] at hb
  rw [ebl]
  rcases List.mem_append.1 hb with hb | hb
  ·exact .inl (List.mem_append_left _ hb)
  ·rcases List.mem_append.1 hb with hb | hb
   ·rcases own_toList (n := x.rs.length + 1) (cap := cap) hat with e | ⟨e, e2⟩
    ·rw [e] at hb; exact .inl (List.mem_append_right _ (List.mem_append_left _ hb))
    ·rw [e] at hb; simp at hb; exact .inr (by omega)
   ·exact .inl (List.mem_append_right _ (List.mem_append_right _ hb))
end Go.Proofs.YtcclepohmhdpbabGreatDoor
