/- THE LAW's World, with one set. -/
import Derived.Test.YtcclepohmhdpbaaGreatDoorDec
import Derived.Test.YtcclepohmhdpbaaGreatDoorWalkM
import Derived.Test.YtcclepohmhdpbaaGreatDoorWalkL
namespace Go.Proofs.YtcclepohmhdpbaaGreatDoor
set_option linter.all false
open Go.RowKit Go.Deep

abbrev nv : Value := .slice none 0 0

theorem Set3.up' {w w' : World} {v : Value} {m : Mult} {b : Nat} {d : D3} (h : Set3 w v m b d) (k : Up w w') : Set3 w' v m b d :=
  h.fr (Fr.of_up (S := fun _ => False) k) fun _ _ e => e
theorem many_of {m : Mult} (h : Pl.wrong m = 0) : Pl.many m = false := by
  unfold Pl.wrong at h
  split at h
  · cases h
  · rename_i h1; simpa using h1

/-- One set was read. -/
structure Got (M : Mult) (Wb : Nat) (w : World) (psv : Value) (b : Nat) (d : D3) (X : L3) : Prop where
  wr : WR w Wb psv nv nv 0
  own : w.ownsRow 0 52 2 psv 1 [.pointer (some ⟨b, 0, none⟩), X.v]
  set : Set3 w (.pointer (some ⟨b, 0, none⟩)) M b d
  lok : X.ok w
  eq : X.m = M
  ok0 : Pl.wrong M = 0
  ne : ∀ x ∈ b :: d.bl, x ≠ Wb
  bd : Pl.Bd M
theorem Got.up {M : Mult} {Wb : Nat} {w w' : World} {psv : Value} {b : Nat} {d : D3} {X : L3} (h : Got M Wb w psv b d X) (k : Up w w') : Got M Wb w' psv b d X :=
  ⟨VRow.of_block h.wr (k.block _ (VRow.lt h.wr)), own_up h.own k, h.set.up' k, h.lok.up k, h.eq, h.ok0, h.ne, h.bd⟩
def DecPost (M : Mult) (Wb : Nat) (w : World) (e : Ending) (w' : World) : Prop :=
  e = .returned (.bool true) ∧ ((WR w' Wb nv nv nv 0 ∧ Up w w') ∨ ∃ psv b d X, Got M Wb w' psv b d X ∧ Fr (· = Wb) w w')

/-! ### Readings of owned lists, with their blocks -/
theorem L1.ok.rf {w : World} {x : L1} (h : x.ok w) : RF1 (fun b => b ∈ x.bl) w x.v x.r := by
  obtain ⟨ao, cap, e⟩ := own_len h
  refine ⟨ao, cap, e, fun i p hp => ?_⟩
  obtain ⟨g, cap', e', hc⟩ := own_cell h (by have := Pl.lt_of_some hp; omega)
  rw [e] at e'
  cases e'
  have := flat_at _ _ _ hp
  exact ⟨g, by simp [L1.bl, e, Value.ownBlock], rfl, hc _ _ this.1, hc _ _ this.2⟩
theorem L2.ok.rf {w : World} {x : L2} (h : x.ok w) : RF2 (fun b => b ∈ x.bl) w x.v x.pts := by
  obtain ⟨ao, cap, e⟩ := own_len h.row
  refine ⟨ao, cap, by rw [e]; simp [L2.pts], fun i p hp => ?_⟩
  simp only [L2.pts, List.getElem?_map, Option.map_eq_some_iff] at hp
  obtain ⟨y, hy, rfl⟩ := hp
  obtain ⟨g, cap', e', hc⟩ := own_cell h.row (by have := Pl.lt_of_some hy; omega)
  rw [e] at e'
  cases e'
  refine ⟨g, y.v, by simp [L2.bl, e, Value.ownBlock], rfl, hc _ _ (by rw [List.getElem?_map, hy]; rfl), ?_⟩
  exact (h.sub y (Pl.mem_of_some hy)).rf.keep (Fr.refl (fun _ => False) w) fun b _ hb => ⟨by simp only [L2.bl, List.mem_append, List.mem_flatMap]; exact .inr ⟨y, Pl.mem_of_some hy, hb⟩, fun e => e⟩
theorem L3.ok.rf {w : World} {x : L3} (h : x.ok w) : RF3 (fun b => b ∈ x.bl) w x.v x.m := by
  obtain ⟨ao, cap, e⟩ := own_len h.row
  refine ⟨ao, cap, by rw [e]; simp [L3.m], fun i p hp => ?_⟩
  simp only [L3.m, List.getElem?_map, Option.map_eq_some_iff] at hp
  obtain ⟨y, hy, rfl⟩ := hp
  obtain ⟨g, cap', e', hc⟩ := own_cell h.row (by have := Pl.lt_of_some hy; omega)
  rw [e] at e'
  cases e'
  refine ⟨g, y.v, by simp [L3.bl, e, Value.ownBlock], rfl, hc _ _ (by rw [List.getElem?_map, hy]; rfl), ?_⟩
  exact (h.sub y (Pl.mem_of_some hy)).rf.keep (Fr.refl (fun _ => False) w) fun b _ hb => ⟨by simp only [L3.bl, List.mem_append, List.mem_flatMap]; exact .inr ⟨y, Pl.mem_of_some hy, hb⟩, fun e => e⟩
end Go.Proofs.YtcclepohmhdpbaaGreatDoor
