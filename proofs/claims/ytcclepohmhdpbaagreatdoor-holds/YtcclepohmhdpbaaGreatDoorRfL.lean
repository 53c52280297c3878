import Derived.Test.YtcclepohmhdpbaaGreatDoorVdN
import Derived.Test.YtcclepohmhdpbaaGreatDoorRfG
/- THE DOCUMENT's WAY ROUND, PLAINLY: a table of rings and points, thinned out. -/
namespace Go.Proofs.YtcclepohmhdpbaaGreatDoor
set_option linter.all false
namespace Vd

/-- F is a part of the table M in which no one stands alone. -/
structure IC (M : Nat → Nat → Bool) (F : Nat → Nat → Prop) : Prop where
  le : ∀ r k, F r k → M r k = true
  pt : ∀ r k, F r k → ∃ s, s ≠ r ∧ F s k
  ring : ∀ r k, F r k → ∃ j, j ≠ k ∧ F r j
/-- a table with one place struck. -/
def strike (M : Nat → Nat → Bool) (r k : Nat) : Nat → Nat → Bool := fun s j => if s = r ∧ j = k then false else M s j
theorem strike_le {M : Nat → Nat → Bool} {r k s j : Nat} (h : strike M r k s j = true) : M s j = true := by
  unfold strike at h; split at h
  · cases h
  · exact h
theorem strike_at (M : Nat → Nat → Bool) (r k : Nat) : strike M r k r k = false := by unfold strike; rw [if_pos ⟨rfl, rfl⟩]
theorem strike_ne {M : Nat → Nat → Bool} {r k s j : Nat} (h : ¬ (s = r ∧ j = k)) : strike M r k s j = M s j := by unfold strike; rw [if_neg h]
/-- a point of one ring alone goes. -/
theorem IC.strike_pt {M : Nat → Nat → Bool} {F : Nat → Nat → Prop} (h : IC M F) {r k : Nat} (hk : ∀ s, s ≠ r → M s k = false) : IC (strike M r k) F := by
  have no : ¬ F r k := fun hf => by
    obtain ⟨s, hs, hf2⟩ := h.pt r k hf
    have := h.le s k hf2
    rw [hk s hs] at this
    cases this
  refine ⟨fun s j hf => ?_, h.pt, h.ring⟩
  rw [strike_ne (fun e => no (by rw [← e.1, ← e.2]; exact hf))]
  exact h.le s j hf
/-- a ring with one point goes. -/
theorem IC.strike_ring {M : Nat → Nat → Bool} {F : Nat → Nat → Prop} (h : IC M F) {r k : Nat} (hk : ∀ j, j ≠ k → M r j = false) : IC (strike M r k) F := by
  have no : ¬ F r k := fun hf => by
    obtain ⟨j, hj, hf2⟩ := h.ring r k hf
    have := h.le r j hf2
    rw [hk j hj] at this
    cases this
  refine ⟨fun s j hf => ?_, h.pt, h.ring⟩
  rw [strike_ne (fun e => no (by rw [← e.1, ← e.2]; exact hf))]
  exact h.le s j hf

/-- The table at the beginning. -/
def tab0 (l : Poly) (pts : List Pnt) (r k : Nat) : Bool := match pts[k]? with
  | some p => decide (r < l.length) && decide (inRing (rAt l r) (at1 p) = 0)
  | none => false
theorem tab0_some {l : Poly} {pts : List Pnt} {r k : Nat} (h : tab0 l pts r k = true) : ∃ p, pts[k]? = some p ∧ r < l.length ∧ inRing (rAt l r) (at1 p) = 0 := by
  unfold tab0 at h
  split at h
  · rename_i p e
    rw [Bool.and_eq_true] at h
    exact ⟨p, e, of_decide_eq_true h.1, of_decide_eq_true h.2⟩
  · cases h
theorem tab0_of {l : Poly} {pts : List Pnt} {r k : Nat} {p : Pnt} (e : pts[k]? = some p) (h1 : r < l.length) (h2 : inRing (rAt l r) (at1 p) = 0) : tab0 l pts r k = true := by
  unfold tab0; rw [e]; simp [h1, h2]
theorem nodup_at {pts : List Pnt} (h : pts.Nodup) {i j : Nat} {p : Pnt} (hi : pts[i]? = some p) (hj : pts[j]? = some p) : i = j := by
  obtain ⟨h1, e1⟩ := List.getElem?_eq_some_iff.1 hi
  obtain ⟨h2, e2⟩ := List.getElem?_eq_some_iff.1 hj
  rcases Nat.lt_trichotomy i j with q | q | q
  · exact absurd (e1.trans e2.symm) (List.pairwise_iff_getElem.1 h i j h1 h2 q)
  · exact q
  · exact absurd (e2.trans e1.symm) (List.pairwise_iff_getElem.1 h j i h2 h1 q)
theorem docCore_tab {l : Poly} {pts : List Pnt} (hn : pts.Nodup) (hm : ∀ p, p ∈ pts ↔ p ∈ l.flatten) : docCore l ↔ ∃ F, IC (tab0 l pts) F ∧ ∃ r k, F r k := by
  constructor
  · rintro ⟨F, h1, h2, r, q, hf⟩
    have at_ : ∀ r q, F r q → ∃ k, pts[k]? = some q := fun r q hf => by
      obtain ⟨k, hk, e⟩ := List.getElem_of_mem ((hm q).2 (h1 r q hf).2.2)
      exact ⟨k, by rw [List.getElem?_eq_getElem hk, e]⟩
    refine ⟨fun r k => ∃ p, pts[k]? = some p ∧ F r p, ⟨?_, ?_, ?_⟩, ?_⟩
    · rintro r k ⟨p, e, hf⟩
      exact tab0_of e (h1 r p hf).1 (h1 r p hf).2.1
    · rintro r k ⟨p, e, hf⟩
      obtain ⟨s, hs, hf2⟩ := h2.pt r p hf
      exact ⟨s, hs, p, e, hf2⟩
    · rintro r k ⟨p, e, hf⟩
      obtain ⟨p', hp, hf2⟩ := h2.ring r p hf
      obtain ⟨j, ej⟩ := at_ r p' hf2
      exact ⟨j, fun e2 => hp (by rw [e2, e] at ej; exact (Option.some.inj ej).symm), p', ej, hf2⟩
    · obtain ⟨k, e⟩ := at_ r q hf
      exact ⟨r, k, q, e, hf⟩
  · rintro ⟨F, h, r, k, hf⟩
    refine ⟨fun r p => ∃ k, pts[k]? = some p ∧ F r k, ?_, ⟨?_, ?_⟩, ?_⟩
    · rintro r q ⟨k, e, hf⟩
      obtain ⟨p, e1, e2, e3⟩ := tab0_some (h.le r k hf)
      obtain rfl := Option.some.inj (e.symm.trans e1)
      exact ⟨e2, e3, (hm q).1 (List.mem_of_getElem? e)⟩
    · rintro r p ⟨k, e, hf⟩
      obtain ⟨s, hs, hf2⟩ := h.pt r k hf
      exact ⟨s, hs, k, e, hf2⟩
    · rintro r p ⟨k, e, hf⟩
      obtain ⟨j, hj, hf2⟩ := h.ring r k hf
      obtain ⟨p', e1, -, -⟩ := tab0_some (h.le r j hf2)
      exact ⟨p', fun e2 => hj (nodup_at hn (by rw [e2] at e1; exact e1) e), j, e1, hf2⟩
    · obtain ⟨p, e1, -, -⟩ := tab0_some (h.le r k hf)
      exact ⟨r, p, k, e1, hf⟩
/-- What the thinning keeps: M is a part of M0, and every part that stands is still in M. -/
structure Thin (M0 M : Nat → Nat → Bool) : Prop where
  le : ∀ r k, M r k = true → M0 r k = true
  all : ∀ F, IC M0 F → IC M F
theorem Thin.refl (M : Nat → Nat → Bool) : Thin M M := ⟨fun _ _ h => h, fun _ h => h⟩
theorem Thin.pt {M0 M : Nat → Nat → Bool} (h : Thin M0 M) {r k : Nat} (hk : ∀ s, s ≠ r → M s k = false) : Thin M0 (strike M r k) := ⟨fun s j hs => h.le s j (strike_le hs), fun F hF => (h.all F hF).strike_pt hk⟩
theorem Thin.ring {M0 M : Nat → Nat → Bool} (h : Thin M0 M) {r k : Nat} (hk : ∀ j, j ≠ k → M r j = false) : Thin M0 (strike M r k) := ⟨fun s j hs => h.le s j (strike_le hs), fun F hF => (h.all F hF).strike_ring hk⟩
/-- At the end: nobody stands alone in M: is anything left? -/
theorem Thin.done {M0 M : Nat → Nat → Bool} (h : Thin M0 M) (hp : ∀ r k, M r k = true → ∃ s, s ≠ r ∧ M s k = true) (hr : ∀ r k, M r k = true → ∃ j, j ≠ k ∧ M r j = true) : (∃ r k, M r k = true) ↔ ∃ F, IC M0 F ∧ ∃ r k, F r k := by
  constructor
  · rintro ⟨r, k, hm⟩
    exact ⟨fun r k => M r k = true, ⟨h.le, hp, hr⟩, r, k, hm⟩
  · rintro ⟨F, hF, r, k, hf⟩
    exact ⟨r, k, (h.all F hF).le r k hf⟩
end Vd
end Go.Proofs.YtcclepohmhdpbaaGreatDoor

/- THE DOCUMENT's WALKS: cut. -/
namespace Go.Proofs.YtcclepohmhdpbaaGreatDoor
set_option linter.all false
open Go.RowKit Go.Deep

/-- each point once. -/
def onceF (acc : List Pnt) (p : Pnt) : List Pnt := if p ∈ acc then acc else acc ++ [p]
def onceL (l : List Pnt) : List Pnt := l.foldl onceF []
theorem onceL_snoc (l : List Pnt) (p : Pnt) : onceL (l ++ [p]) = onceF (onceL l) p := by unfold onceL; rw [List.foldl_append]; rfl
theorem once_facts : ∀ (l acc : List Pnt), acc.Nodup → (l.foldl onceF acc).Nodup ∧ (∀ p, p ∈ l.foldl onceF acc ↔ p ∈ acc ∨ p ∈ l) ∧ (l.foldl onceF acc).length ≤ acc.length + l.length := by
  intro l
  induction l with
  | nil => intro acc h; exact ⟨h, fun p => by simp, by simp⟩
  | cons x l ih =>
    intro acc h
    rw [List.foldl_cons]
    by_cases hx : x ∈ acc
    · rw [show onceF acc x = acc from if_pos hx]
      obtain ⟨h1, h2, h3⟩ := ih acc h
      refine ⟨h1, fun p => ?_, by simp only [List.length_cons]; omega⟩
      rw [h2, List.mem_cons]
      constructor
      · rintro (a | a); exact .inl a; exact .inr (.inr a)
      · rintro (a | rfl | a); exact .inl a; exact .inl hx; exact .inr a
    · rw [show onceF acc x = acc ++ [x] from if_neg hx]
      obtain ⟨h1, h2, h3⟩ := ih (acc ++ [x]) (by
        rw [List.nodup_append]
        refine ⟨h, by simp, ?_⟩
        intro a ha b hb
        rw [List.mem_singleton] at hb
        subst hb
        exact fun e => hx (e ▸ ha))
      refine ⟨h1, fun p => ?_, by simp only [List.length_cons, List.length_append, List.length_nil] at *; omega⟩
      rw [h2, List.mem_append, List.mem_singleton, List.mem_cons]
      constructor
      · rintro ((a | a) | a); exact .inl a; exact .inr (.inl a); exact .inr (.inr a)
      · rintro (a | a | a); exact .inl (.inl a); exact .inl (.inr a); exact .inr a
theorem onceL_nodup (l : List Pnt) : (onceL l).Nodup := (once_facts l [] List.nodup_nil).1
theorem mem_onceL {l : List Pnt} {p : Pnt} : p ∈ onceL l ↔ p ∈ l := by have := (once_facts l [] List.nodup_nil).2.1 p; unfold onceL; rw [this]; simp
theorem onceL_len (l : List Pnt) : (onceL l).length ≤ l.length := by have := (once_facts l [] List.nodup_nil).2.2; unfold onceL; simp at this; omega
/-- the points of a polygon, but for the last of each ring. -/
def heads (l : Poly) : List Pnt := (l.map List.dropLast).flatten
theorem mem_dropLast {r : Ring} (h : Vd.Shut r) (p : Pnt) : p ∈ r.dropLast ↔ p ∈ r := by
  constructor
  · exact fun k => List.dropLast_subset r k
  · intro k
    obtain ⟨i, hi, e⟩ := List.getElem_of_mem k
    have hl := h.len
    by_cases c : i < r.length - 1
    · have : r.dropLast[i]'(by rw [List.length_dropLast]; exact c) = r[i] := List.getElem_dropLast _
      exact List.mem_of_getElem (this.trans e)
    · have e0 : r[0]'(by omega) = p := by
        have h1 := Vd.ptAt_get (r := r) (i := 0) (by omega)
        have h2 := Vd.ptAt_get (r := r) (i := r.length - 1) (by omega)
        have e3 : i = r.length - 1 := by omega
        subst e3
        rw [List.getElem?_eq_getElem (by omega)] at h1 h2
        rw [Option.some.inj h1, h.eq, ← Option.some.inj h2]
        exact e
      have : r.dropLast[0]'(by rw [List.length_dropLast]; omega) = r[0]'(by omega) := List.getElem_dropLast _
      exact List.mem_of_getElem (this.trans e0)
theorem mem_heads {l : Poly} (h : ∀ r ∈ l, Vd.Shut r) (p : Pnt) : p ∈ heads l ↔ p ∈ l.flatten := by
  unfold heads
  simp only [List.mem_flatten, List.mem_map]
  constructor
  · rintro ⟨_, ⟨r, hr, rfl⟩, hp⟩; exact ⟨r, hr, (mem_dropLast (h r hr) p).1 hp⟩
  · rintro ⟨r, hr, hp⟩; exact ⟨_, ⟨r, hr, rfl⟩, (mem_dropLast (h r hr) p).2 hp⟩
theorem heads_take {l : Poly} {k : Nat} {r : Ring} (h : l[k]? = some r) : heads (l.take (k + 1)) = heads (l.take k) ++ r.dropLast := by unfold heads; rw [Pl.take_one h, List.map_append, List.flatten_append]; simp
theorem heads_len (l : Poly) : (heads l).length ≤ l.flatten.length := by
  unfold heads
  induction l with
  | nil => simp
  | cons r l ih => simp only [List.map_cons, List.flatten_cons, List.length_append, List.length_dropLast]; omega
end Go.Proofs.YtcclepohmhdpbaaGreatDoor

/- THE DOCUMENT's WAY ROUND ON THE HEAP: rows of yes and no. -/
namespace Go.Proofs.YtcclepohmhdpbaaGreatDoor
set_option linter.all false
open Go.RowKit Go.Deep

theorem und_bools : Tryz.prog.underlying 196 = some (.slice 4) := by kernel_rfl
theorem info_bool : (Tryz.prog.info? 4).map (fun i => (i.zero, i.size, i.bytes)) = some (some (.bool false), 1, 1) := by kernel_rfl
theorem und_boolss : Tryz.prog.underlying 195 = some (.slice 196) := by kernel_rfl
theorem info_bools : (Tryz.prog.info? 196).map (fun i => (i.zero, i.size, i.bytes)) = some (some (.slice none 0 0), 1, 24) := by kernel_rfl
theorem el_boolss : Elem Tryz.prog 195 196 (.slice none 0 0) 1 24 := ⟨und_boolss, info_bools, rfl, by omega, by omega⟩
def bools (m : List Bool) : List Value := m.map Value.bool
theorem bools_set (m : List Bool) (i : Nat) (b : Bool) : bools (m.set i b) = (bools m).set i (.bool b) := by simp [bools]
theorem bools_at {m : List Bool} {i : Nat} {b : Bool} (h : m[i]? = some b) : (bools m)[i]? = some (.bool b) := by simp [bools, h]
theorem make_bools (n : Nat) (hn : n ≤ 2097152) (w : World) :
    (Instr.makeSlice 196 (.int .i64 (n : Int)) (.int .i64 (n : Int))).run Tryz.prog w = .ok (.slice (some ⟨w.heap.size, 0, none⟩) n n) (w.alloc (.cells (bools (List.replicate n false)).toArray 4)) := by
  rw [run_make_row' 196 4 _ 1 und_bools info_bool rfl .i64 .i64 n (by omega) (by omega) w]
  congr 3
  rw [← Array.toArray_toList (xs := madeCells _ _), toList_madeCells_one]
  congr 1
  simp [bools]

/-- a row's slice. -/
def rowV (n : Nat) (b : Nat) : List Value := [.slice (some ⟨b, 0, none⟩) n n]
/-- The table on the heap: rows at the blocks bs, as M says. -/
structure HT (base : Nat) (w : World) (hv : Value) (bs : List Nat) (M : List (List Bool)) (n : Nat) : Prop where
  own : w.ownsRow base 196 1 hv bs.length (flatG (rowV n) bs)
  len : M.length = bs.length
  row : ∀ (i b : Nat) (m : List Bool), bs[i]? = some b → M[i]? = some m → m.length = n ∧ VRow w b 4 (bools m)
  nd : bs.Nodup
  low : ∀ b ∈ bs, base ≤ b
theorem HT.nil (base : Nat) (w : World) (n : Nat) : HT base w (.slice none 0 0) [] [] n := ⟨World.ownsRow_nil _ _ _ _, rfl, fun i b m h => by simp at h, List.nodup_nil, fun b h => by simp at h⟩
theorem HT.up {base : Nat} {w w' : World} {hv : Value} {bs : List Nat} {M : List (List Bool)} {n : Nat} (h : HT base w hv bs M n) (k : Up w w') : HT base w' hv bs M n :=
  ⟨own_up h.own k, h.len, fun i b m hb hm => ⟨(h.row i b m hb hm).1, (h.row i b m hb hm).2.up k⟩, h.nd, h.low⟩
theorem HT.shape {base : Nat} {w : World} {hv : Value} {bs : List Nat} {M : List (List Bool)} {n : Nat} (h : HT base w hv bs M n) : ∃ ao cap, hv = .slice ao M.length cap := by
  obtain ⟨ao, cap, e⟩ := own_len h.own
  exact ⟨ao, cap, by rw [e, h.len]⟩
theorem HT.blk {base : Nat} {w : World} {hv : Value} {bs : List Nat} {M : List (List Bool)} {n : Nat} (h : HT base w hv bs M n) {i : Nat} {m : List Bool} (hm : M[i]? = some m) :
    ∃ b g cap, bs[i]? = some b ∧ hv = .slice (some ⟨g, 0, none⟩) M.length cap ∧ w.cell? ⟨g, i, none⟩ = some (.slice (some ⟨b, 0, none⟩) n n) ∧ m.length = n ∧ VRow w b 4 (bools m) ∧ base ≤ b := by
  obtain ⟨b, hb⟩ := Pl.some_of_lt (show i < bs.length by rw [← h.len]; exact Pl.lt_of_some hm)
  obtain ⟨ao, cap, e, hc⟩ := own_rdG (f := rowV n) (fun _ => rfl) h.own
  obtain ⟨g, rfl, hc2⟩ := hc i b hb
  have c := hc2 0 _ rfl
  obtain ⟨h1, h2⟩ := h.row i b m hb hm
  exact ⟨b, g, cap, hb, by rw [e, h.len], by simpa using c, h1, h2, h.low b (Pl.mem_of_some hb)⟩
/-- one place of the table, struck or set. -/
theorem HT.store {base : Nat} {w : World} {hv : Value} {bs : List Nat} {M : List (List Bool)} {n : Nat} (h : HT base w hv bs M n) {i b : Nat} {m : List Bool} (hb : bs[i]? = some b) (hm : M[i]? = some m) (k : Nat) (x : Bool) :
    HT base (w.setCell ⟨b, k, none⟩ (.bool x)) hv bs (M.set i (m.set k x)) n := by
  obtain ⟨h1, h2⟩ := h.row i b m hb hm
  refine ⟨own_set h.own (own_row_ne h.own h2 (by decide)) _, by rw [List.length_set]; exact h.len, ?_, h.nd, h.low⟩
  intro j c mm hc hmm
  by_cases e : j = i
  · subst e
    obtain rfl := Option.some.inj (hb.symm.trans hc)
    rw [List.getElem?_set_self (Pl.lt_of_some hm)] at hmm
    obtain rfl := Option.some.inj hmm
    refine ⟨by rw [List.length_set]; exact h1, ?_⟩
    rw [bools_set]
    exact h2.set k _
  · rw [List.getElem?_set_ne (fun e2 => e e2.symm)] at hmm
    obtain ⟨q1, q2⟩ := h.row j c mm hc hmm
    refine ⟨q1, q2.setOther ?_ _⟩
    intro e2
    refine e ?_
    simp only at e2
    subst e2
    obtain ⟨l1, e1⟩ := List.getElem?_eq_some_iff.1 hc
    obtain ⟨l2, e3⟩ := List.getElem?_eq_some_iff.1 hb
    rcases Nat.lt_trichotomy j i with q | q | q
    · exact absurd (e1.trans e3.symm) (List.pairwise_iff_getElem.1 h.nd j i l1 l2 q)
    · exact q
    · exact absurd (e3.trans e1.symm) (List.pairwise_iff_getElem.1 h.nd i j l2 l1 q)
/-- one row more. -/
theorem HT.push {base : Nat} {w w' : World} {hv hv' : Value} {bs : List Nat} {M : List (List Bool)} {n b : Nat} {m : List Bool} (h : HT base w hv bs M n) (hr : VRow w b 4 (bools m)) (hl : m.length = n) (hb : base ≤ b) (hn : b ∉ bs)
    (hg : w.grownBy w' hv.ownBlock) (ho : w'.ownsRow base 196 1 hv' (bs.length + 1) (flatG (rowV n) bs ++ rowV n b)) : HT base w' hv' (bs ++ [b]) (M ++ [m]) n := by
  refine ⟨?_, by simp [h.len], ?_, ?_, ?_⟩
  · rw [flatG_append, List.length_append]; exact ho
  · intro i c mm hc hmm
    by_cases q : i < bs.length
    · rw [List.getElem?_append_left q] at hc
      rw [List.getElem?_append_left (by rw [h.len]; exact q)] at hmm
      obtain ⟨q1, q2⟩ := h.row i c mm hc hmm
      exact ⟨q1, q2.grown hg (own_row_ne h.own q2 (by decide))⟩
    · have l1 := Pl.lt_of_some hc
      simp only [List.length_append, List.length_singleton] at l1
      have e : i = bs.length := by omega
      subst e
      rw [List.getElem?_append_right (Nat.le_refl _), Nat.sub_self] at hc
      rw [List.getElem?_append_right (by rw [h.len]; exact Nat.le_refl _), h.len, Nat.sub_self] at hmm
      cases hc
      cases hmm
      exact ⟨hl, hr.grown hg (own_row_ne h.own hr (by decide))⟩
  · rw [List.nodup_append]
    refine ⟨h.nd, by simp, ?_⟩
    intro a ha c hc
    rw [List.mem_singleton] at hc
    subst hc
    exact fun e => hn (e ▸ ha)
  · intro c hc
    rcases List.mem_append.1 hc with hc | hc
    · exact h.low c hc
    · rw [List.mem_singleton] at hc; subst hc; exact hb
/-- The table, as a function. -/
def tabM (M : List (List Bool)) (r k : Nat) : Bool := ((M[r]?).bind fun m => m[k]?).getD false
theorem tabM_at {M : List (List Bool)} {r k : Nat} {m : List Bool} {b : Bool} (hm : M[r]? = some m) (hb : m[k]? = some b) : tabM M r k = b := by unfold tabM; rw [hm]; simp [hb]
theorem tabM_strike {M : List (List Bool)} {r k : Nat} {m : List Bool} (hm : M[r]? = some m) : tabM (M.set r (m.set k false)) = Vd.strike (tabM M) r k := by
  funext s j
  unfold Vd.strike
  by_cases e : s = r
  · subst e
    unfold tabM
    rw [List.getElem?_set_self (Pl.lt_of_some hm), hm]
    by_cases e2 : j = k
    · subst e2
      rw [if_pos ⟨rfl, rfl⟩]
      by_cases c : j < m.length
      · simp [List.getElem?_set_self c]
      · have e3 : (m.set j false)[j]? = none := List.getElem?_eq_none (by rw [List.length_set]; omega)
        simp [e3]
    · rw [if_neg (fun q => e2 q.2)]
      simp [List.getElem?_set_ne (fun q => e2 q.symm)]
  · rw [if_neg (fun q => e q.1)]
    unfold tabM
    rw [List.getElem?_set_ne (fun q => e q.symm)]
/-- how many stand. -/
def cnt (M : List (List Bool)) : Nat := (M.map fun m => m.countP id).sum
/-- a ring's row. -/
def rowOf (T : List Pnt) (r : Ring) : List Bool := T.map fun p => decide (Vd.inRing r (Vd.at1 p) = 0)
theorem rowOf_at {T : List Pnt} {r : Ring} {t : Nat} {p : Pnt} (h : T[t]? = some p) : (rowOf T r)[t]? = some (decide (Vd.inRing r (Vd.at1 p) = 0)) := by unfold rowOf; rw [List.getElem?_map, h]; rfl
def fillR (m : List Bool) (t : Nat) : List Bool := m.take t ++ List.replicate (m.length - t) false
theorem fillR_zero (m : List Bool) : fillR m 0 = List.replicate m.length false := by simp [fillR]
theorem fillR_all (m : List Bool) : fillR m m.length = m := by simp [fillR]
theorem fillR_at {m : List Bool} {t : Nat} (h : t < m.length) : (fillR m t)[t]? = some false := by
  unfold fillR
  rw [List.getElem?_append_right (by rw [List.length_take]; omega), List.length_take, show t - min t m.length = 0 by omega, show m.length - t = m.length - (t + 1) + 1 by omega, List.replicate_succ]; rfl
theorem fillR_set {m : List Bool} {t : Nat} {x : Bool} (h : m[t]? = some x) : (fillR m t).set t x = fillR m (t + 1) := by
  have hl := Pl.lt_of_some h
  unfold fillR
  rw [List.set_append_right _ _ (by rw [List.length_take]; omega), List.length_take, show t - min t m.length = 0 by omega, show m.length - t = m.length - (t + 1) + 1 by omega, List.replicate_succ, List.set_cons_zero, Pl.take_one h, List.append_assoc]; rfl
theorem HT.new {base : Nat} {w : World} {hv : Value} {bs : List Nat} {M : List (List Bool)} {n : Nat} (h : HT base w hv bs M n) : w.heap.size ∉ bs := by
  intro k
  obtain ⟨i, hi, e⟩ := List.getElem_of_mem k
  have hb : bs[i]? = some w.heap.size := by rw [List.getElem?_eq_getElem hi, e]
  obtain ⟨m, hm⟩ := Pl.some_of_lt (show i < M.length by rw [h.len]; exact hi)
  have := (h.row i _ m hb hm).2.lt
  omega
end Go.Proofs.YtcclepohmhdpbaaGreatDoor

/- THE DOCUMENT's WAY ROUND: the steps of the thinning, plainly. -/
namespace Go.Proofs.YtcclepohmhdpbaaGreatDoor
set_option linter.all false
namespace Vd
/-- rings below r stand, in both ways. -/
def Upto (M : Nat → Nat → Bool) (r : Nat) : Prop := ∀ s, s < r → (∀ k, M s k = true → ∃ s', s' ≠ s ∧ M s' k = true) ∧ (∀ k, M s k = true → ∃ j, j ≠ k ∧ M s j = true)
/-- points below k of ring r are shared. -/
def Shared (M : Nat → Nat → Bool) (r k : Nat) : Prop := ∀ j, j < k → M r j = true → ∃ s, s ≠ r ∧ M s j = true
theorem shared_zero (M : Nat → Nat → Bool) (r : Nat) : Shared M r 0 := fun j h => absurd h (by omega)
theorem Shared.step {M : Nat → Nat → Bool} {r k : Nat} (h : Shared M r k) (hk : M r k = true → ∃ s, s ≠ r ∧ M s k = true) : Shared M r (k + 1) := fun j hj hm => by
  by_cases e : j = k
  · subst e; exact hk hm
  · exact h j (by omega) hm
/-- how many of the first k places of a row are true (0, 1, more), and the last of them. -/
structure NA (f : Nat → Bool) (k n at_ : Nat) : Prop where
  le : n ≤ k
  zero : n = 0 → ∀ j, j < k → f j = false
  one : n = 1 → ∀ j, j < k → j ≠ at_ → f j = false
  pos : 1 ≤ n → at_ < k ∧ f at_ = true
  two : 2 ≤ n → ∃ i j, i ≠ j ∧ i < k ∧ j < k ∧ f i = true ∧ f j = true
theorem NA.start (f : Nat → Bool) : NA f 0 0 0 := ⟨Nat.le_refl _, fun _ j h => absurd h (by omega), fun h => absurd h (by omega), fun h => absurd h (by omega), fun h => absurd h (by omega)⟩
theorem NA.yes {f : Nat → Bool} {k n a : Nat} (h : NA f k n a) (hk : f k = true) : NA f (k + 1) (n + 1) k := by
  refine ⟨by have := h.le; omega, fun e => absurd e (by omega), ?_, fun _ => ⟨by omega, hk⟩, ?_⟩
  · intro e j hj hne
    exact h.zero (by omega) j (by omega)
  · intro e
    obtain ⟨h1, h2⟩ := h.pos (by omega)
    exact ⟨a, k, by omega, by omega, by omega, h2, hk⟩
theorem NA.no {f : Nat → Bool} {k n a : Nat} (h : NA f k n a) (hk : f k = false) : NA f (k + 1) n a := by
  refine ⟨by have := h.le; omega, ?_, ?_, fun e => ⟨by have := (h.pos e).1; omega, (h.pos e).2⟩, ?_⟩
  · intro e j hj
    by_cases q : j = k
    · rw [q]; exact hk
    · exact h.zero e j (by omega)
  · intro e j hj hne
    by_cases q : j = k
    · rw [q]; exact hk
    · exact h.one e j (by omega) hne
  · intro e
    obtain ⟨i, j, q1, q2, q3, q4, q5⟩ := h.two e
    exact ⟨i, j, q1, by omega, by omega, q4, q5⟩
/-- the count looks at the first k places only. -/
theorem NA.congr {f g : Nat → Bool} {k n a : Nat} (h : NA f k n a) (e : ∀ j, j < k → g j = f j) : NA g k n a := by
  refine ⟨h.le, fun q j hj => by rw [e j hj]; exact h.zero q j hj, fun q j hj hne => by rw [e j hj]; exact h.one q j hj hne, fun q => ⟨(h.pos q).1, by rw [e _ (h.pos q).1]; exact (h.pos q).2⟩, fun q => ?_⟩
  obtain ⟨i, j, q1, q2, q3, q4, q5⟩ := h.two q
  exact ⟨i, j, q1, q2, q3, by rw [e i q2]; exact q4, by rw [e j q3]; exact q5⟩
/-- the whole row, not with one: each has another. -/
theorem NA.ring {f : Nat → Bool} {k n a : Nat} (h : NA f k n a) (hn : n ≠ 1) (hf : ∀ j, k ≤ j → f j = false) : ∀ j, f j = true → ∃ i, i ≠ j ∧ f i = true := by
  intro j hj
  have hjk : j < k := by
    rcases Nat.lt_or_ge j k with q | q
    · exact q
    · rw [hf j q] at hj; cases hj
  rcases Nat.lt_or_ge n 2 with q | q
  · rw [h.zero (by omega) j hjk] at hj; cases hj
  · obtain ⟨x, y, q1, q2, q3, q4, q5⟩ := h.two q
    by_cases e : x = j
    · exact ⟨y, by rw [← e]; exact fun q => q1 q.symm, q5⟩
    · exact ⟨x, e, q4⟩
theorem Upto.step {M : Nat → Nat → Bool} {r : Nat} (h : Upto M r) (h1 : ∀ k, M r k = true → ∃ s, s ≠ r ∧ M s k = true) (h2 : ∀ k, M r k = true → ∃ j, j ≠ k ∧ M r j = true) : Upto M (r + 1) := fun s hs => by
  by_cases e : s = r
  · subst e; exact ⟨h1, h2⟩
  · exact h s (by omega)
end Vd
/-! ### fewer stand -/
theorem countP_set_lt : ∀ (m : List Bool) (k : Nat), m[k]? = some true → (m.set k false).countP id < m.countP id
  | [], k, h => by simp at h
  | x :: m, 0, h => by
    simp only [List.getElem?_cons_zero, Option.some.injEq] at h
    subst h
    simp [List.countP_cons]
  | x :: m, k + 1, h => by
    have := countP_set_lt m k (by simpa using h)
    simp only [List.set_cons_succ, List.countP_cons]
    omega
theorem cnt_strike : ∀ (M : List (List Bool)) (r k : Nat) (m : List Bool), M[r]? = some m → m[k]? = some true → cnt (M.set r (m.set k false)) < cnt M
  | [], r, k, m, h, _ => by simp at h
  | x :: M, 0, k, m, h, hk => by
    simp only [List.getElem?_cons_zero, Option.some.injEq] at h
    subst h
    have := countP_set_lt x k hk
    simp only [cnt, List.set_cons_zero, List.map_cons, List.sum_cons]
    omega
  | x :: M, r + 1, k, m, h, hk => by
    have := cnt_strike M r k m (by simpa using h) hk
    simp only [cnt, List.set_cons_succ, List.map_cons, List.sum_cons] at *
    omega
theorem tabM_row {M : List (List Bool)} {r k : Nat} (h : tabM M r k = true) : ∃ m, M[r]? = some m ∧ m[k]? = some true := by
  unfold tabM at h
  cases hm : M[r]? with
  | none => rw [hm] at h; simp at h
  | some m =>
    rw [hm] at h
    simp only [Option.bind_some] at h
    cases hk : m[k]? with
    | none => rw [hk] at h; simp at h
    | some b => rw [hk] at h; simp at h; subst h; exact ⟨m, rfl, hk⟩
/-- what stands of a point k in another ring than r. -/
def touchT (M : List (List Bool)) (r k t : Nat) : Bool := Vd.anyI t fun s => decide (s ≠ r) && tabM M s k
theorem touchT_succ (M : List (List Bool)) (r k t : Nat) : touchT M r k (t + 1) = (touchT M r k t || (decide (t ≠ r) && tabM M t k)) := by unfold touchT; rw [Vd.anyI_succ]
end Go.Proofs.YtcclepohmhdpbaaGreatDoor
