import Derived.Test.YtcclepohmhdpbabGreatDoorJsB
import Derived.Test.YtcclepohmhdpbabGreatDoorTxF
import Derived.Test.YtcclepohmhdpbabGreatDoorNoted
namespace Go.Proofs.YtcclepohmhdpbabGreatDoor
set_option linter.all false
open Go.RowKit Go.Deep
namespace Js
open Bn (Res)
def isTT : V → Bool
 | .txt c => decide (c = typeT)
 | _ => false
theorem leaf_txt {s : List UInt8} (h : Tx.at_ s 0 = 34) : leaf s = (str s).map fun x => (.txt x.1, x.2) := by
 have w : ∀ (c : UInt8) (k : List UInt8), (c.toNat : Int) ≠ 34 → Tx.pre (c :: k) s = false := by
  intro c k h2
  cases hp : Tx.pre (c :: k) s
  ·rfl
  ·have := word_first hp; omega
 have w1 : Tx.pre tru s = false := w 116 _ (by decide)
 have w2 : Tx.pre fal s = false := w 102 _ (by decide)
 have w3 : Tx.pre nul s = false := w 110 _ (by decide)
 unfold leaf
 rw [w1, w2, w3]
 simp only [Bool.false_eq_true, if_false]
 rw [if_pos h]
def named (n : List Int) (ms : List (List Int × V)) : List V := (ms.filter fun x => decide (x.1 = n)).map Prod.snd
def good (ms : List (List Int × V)) : Bool := ms.all fun x => if x.1 = typeN then isTT x.2 else if x.1 = listN then true else decide (x.2.deep ≤ 16)
theorem listN_ne : listN ≠ typeN := by decide
def answer (ms : List (List Int × V)) : Option (Mult × Bool) :=
 if (named typeN ms).length = 1 ∧ (named listN ms).length = 1 ∧ good ms = true then (match named listN ms with
  | v :: _ => cPolys v false
  | [] => none) else none
end Js
end Go.Proofs.YtcclepohmhdpbabGreatDoor
namespace Go.Proofs.YtcclepohmhdpbabGreatDoor
set_option linter.all false
open Go.RowKit Go.Deep
namespace Wt
open Bn (Res)
def name : List UInt8 := [77, 85, 76, 84, 73, 80, 79, 76, 89, 71, 79, 78]
def empty : List UInt8 := [69, 77, 80, 84, 89]
theorem polys_bare (l : List UInt8) (o : Bool) : polys (Tx.bare l) o = polys l o := by unfold polys list; rw [Tx.bare_bare]
def rest (r : List UInt8) : Res Mult := if (Tx.pre empty (Tx.bare r) && gap r) = true then some ([], Tx.aft empty (Tx.bare r), false) else polys r false
def set (l : List UInt8) : Res Mult := if Tx.pre name (Tx.bare l) = true then rest (Tx.aft name (Tx.bare l)) else none
def err (l : List UInt8) : Int := match set l with
 | none => 3
 | some x => Tx.fin (Tx.bare x.2.1) false x.2.2
def got (l : List UInt8) : Mult := match set l with
 | none => []
 | some x => x.1
theorem err_of {l t : List UInt8} {m : Mult} {bad o : Bool} (h : set l = if bad = true then none else some (m, t, o)) : err l = Tx.fin (Tx.bare t) bad o := by
 unfold err
 rw [h]
 cases bad
 ·rfl
 ·simp [Tx.fin]
theorem got_of {l t : List UInt8} {m : Mult} {bad o : Bool} (h : set l = if bad = true then none else some (m, t, o)) (hb : bad = false) : got l = m := by
 unfold got
 rw [h, hb]
 rfl
theorem fin_bad {t : List UInt8} {bad o : Bool} (h : Tx.fin t bad o = 0) : bad = false := by
 cases bad
 ·rfl
 ·simp [Tx.fin] at h
theorem got_ok {l : List UInt8} (hl : l.length ≤ 6000) : Bn.okM (got l) := by
  unfold got
  cases h : set l with
  | none => exact ⟨by simp, by simp⟩
  | some x =>
    unfold set at h
    split at h
    · unfold rest at h
      have hle : (Tx.aft name (Tx.bare l)).length ≤ 6000 := Nat.le_trans (Nat.le_trans (Tx.aft_le _ _) (Tx.bare_le l)) hl
      split at h
      · have := Option.some.inj h
        rw [← this]
        exact ⟨by simp, by simp⟩
      · exact (polys_lt h).2 hle
    · cases h
end Wt
end Go.Proofs.YtcclepohmhdpbabGreatDoor
namespace Go.Proofs.YtcclepohmhdpbabGreatDoor
set_option linter.all false
open Go.RowKit Go.Deep
namespace Js
open Bn (Res)
def pre0 {α : Type} (acc : List α) (x : Option (List α × List UInt8)) : Option (List α × List UInt8) := x.map fun y => (acc ++ y.1, y.2)
theorem pre0_nil {α : Type} (x : Option (List α × List UInt8)) : pre0 [] x = x := by cases x <;> simp [pre0]
theorem go_on {α : Type} {e : UInt8} {f : List UInt8 → Bool → Res α} {T : Res (List α)} {acc : List α} {k : Nat} {l t : List UInt8} {o o' bad b : Bool} {a : α} (hT : T = if bad = true then none else Bn.pre acc (items e f (k + 1) l o)) (hf : (if bad = true then none else f l o) = if b = true then none else some (a, t, o')) :
  ((!b && Tx.pre [44] (Tx.bare t)) = true → T = Bn.pre (acc ++ [a]) (items e f k (Tx.aft [44] (Tx.bare t)) o')) ∧ ((!b && Tx.pre [44] (Tx.bare t)) = false → T = if (b || !Tx.pre [e] (Tx.bare t)) = true then none else some (acc ++ [a], Tx.aft [e] (Tx.bare t), o')) := by
 cases bad
 ·simp only [Bool.false_eq_true, if_false] at hT hf
  cases b
  ·simp only [Bool.false_eq_true, if_false] at hf
   constructor
   ·intro h
    simp at h
    rw [hT]
    simp only [items, hf, Option.bind_some, h, if_true, Bn.pre, Option.map_map]
    congr 1
    funext y
    simp
   ·intro h
    simp at h
    rw [hT]
    simp only [items, hf, Option.bind_some, h, Bool.false_eq_true, if_false, Bool.false_or]
    cases h2 : Tx.pre [e] (Tx.bare t)
    ·simp [Bn.pre]
    ·simp [Bn.pre]
  ·simp at hf
   constructor
   ·intro h; simp at h
   ·intro _
    rw [hT]
    simp [items, hf, Bn.pre]
 ·simp only [if_true] at hT hf
  cases b
  ·simp at hf
  ·constructor
   ·intro h; simp at h
   ·intro _; rw [hT]; simp
theorem go_on0 {α : Type} {e : UInt8} {f : List UInt8 → Option (α × List UInt8)} {T : Option (List α × List UInt8)} {acc : List α} {k : Nat} {l t : List UInt8} {bad b : Bool} {a : α} (hT : T = if bad = true then none else pre0 acc (items0 e f (k + 1) l)) (hf : (if bad = true then none else f l) = if b = true then none else some (a, t)) :
  ((!b && Tx.pre [44] (Tx.bare t)) = true → T = pre0 (acc ++ [a]) (items0 e f k (Tx.aft [44] (Tx.bare t)))) ∧ ((!b && Tx.pre [44] (Tx.bare t)) = false → T = if (b || !Tx.pre [e] (Tx.bare t)) = true then none else some (acc ++ [a], Tx.aft [e] (Tx.bare t))) := by
 cases bad
 ·simp only [Bool.false_eq_true, if_false] at hT hf
  cases b
  ·simp only [Bool.false_eq_true, if_false] at hf
   constructor
   ·intro h
    simp at h
    rw [hT]
    simp only [items0, hf, Option.bind_some, h, if_true, pre0, Option.map_map]
    congr 1
    funext y
    simp
   ·intro h
    simp at h
    rw [hT]
    simp only [items0, hf, Option.bind_some, h, Bool.false_eq_true, if_false, Bool.false_or]
    cases h2 : Tx.pre [e] (Tx.bare t)
    ·simp [pre0]
    ·simp [pre0]
  ·simp at hf
   constructor
   ·intro h; simp at h
   ·intro _
    rw [hT]
    simp [items0, hf, pre0]
 ·simp only [if_true] at hT hf
  cases b
  ·simp at hf
  ·constructor
   ·intro h; simp at h
   ·intro _; rw [hT]; simp
theorem code_lt : ∀ (k : Nat) (v : Int) (l : List UInt8) (x : Int) (t : List UInt8), code k v l = some (x, t) → t.length ≤ l.length
  | 0, v, l, x, t, h => by cases h; exact Nat.le_refl _
  | k + 1, v, l, x, t, h => by
    simp only [code, Option.bind_eq_some_iff] at h
    obtain ⟨d, -, h⟩ := h
    have := code_lt k _ _ _ _ h
    rw [List.length_drop] at this
    omega
theorem esc_lt {l : List UInt8} {x : Int} {t : List UInt8} (h : esc l = some (x, t)) : t.length ≤ l.length := by
 unfold esc at h
 split at h
 ·have := code_lt _ _ _ _ _ h
  rw [List.length_drop] at this
  omega
 ·simp only [Option.map_eq_some_iff] at h
  obtain ⟨d, -, h⟩ := h
  cases h
  simp
theorem len_of_at {l : List UInt8} (h : Tx.at_ l 0 ≠ -1) : (l.drop 1).length + 1 = l.length := by
 have := Tx.lt_of_at h
 rw [List.length_drop]; omega
theorem chr_lt {l : List UInt8} {x : Int} {t : List UInt8} (h : chr l = some (x, t)) : t.length + 1 ≤ l.length := by
 unfold chr at h
 split at h
 ·rename_i h0
  have h1 := len_of_at (l := l) (by omega)
  have := esc_lt h
  omega
 ·split at h
  ·rename_i h0
   cases h
   have h1 := len_of_at (l := l) (by omega)
   omega
  ·cases h
theorem body_lt : ∀ (k : Nat) (l : List UInt8) (c : List Int) (t : List UInt8), body k l = some (c, t) → t.length + 1 + c.length ≤ l.length
  | 0, l, c, t, h => by cases h
  | k + 1, l, c, t, h => by
    simp only [body] at h
    split at h
    · rename_i h0
      cases h
      have h1 := len_of_at (l := l) (by omega)
      simp at h1 ⊢; omega
    · simp only [Option.bind_eq_some_iff, Option.map_eq_some_iff] at h
      obtain ⟨⟨v, s⟩, h1, ⟨c2, t2⟩, h2, h3⟩ := h
      cases h3
      try dsimp only at *
      have h4 := chr_lt h1
      have h5 := body_lt k s _ _ h2
      simp at h5 ⊢; omega
theorem str_lt {l : List UInt8} {c : List Int} {t : List UInt8} (h : str l = some (c, t)) : t.length + 2 + c.length ≤ l.length := by
 unfold str at h
 split at h
 ·rename_i h0
  have h1 := len_of_at (l := l) (by omega)
  have := body_lt _ _ _ _ h
  omega
 ·cases h
theorem items0_lt {α : Type} {e : UInt8} {f : List UInt8 → Option (α × List UInt8)} (hf : ∀ l a t, f l = some (a, t) → t.length + 1 ≤ l.length) :
    ∀ (k : Nat) (l : List UInt8) (r : List α) (t : List UInt8), items0 e f k l = some (r, t) → t.length + 1 + r.length ≤ l.length
  | 0, l, r, t, h => by cases h
  | k + 1, l, r, t, h => by
    simp only [items0, Option.bind_eq_some_iff] at h
    obtain ⟨⟨a, s⟩, h1, h⟩ := h
    have h2 := hf _ _ _ h1
    have hb := Tx.bare_le s
    simp only at h
    split at h
    · rename_i hc
      simp only [Option.map_eq_some_iff] at h
      obtain ⟨⟨r2, t2⟩, h3, h4⟩ := h
      cases h4
      try dsimp only at *
      have h5 := items0_lt hf k _ _ _ h3
      have h6 := Wt.aft_len hc
      simp; omega
    · split at h
      · rename_i hc
        cases h
        have h6 := Wt.aft_len hc
        simp; omega
      · cases h
theorem list0_lt {α : Type} {b e : UInt8} {f : List UInt8 → Option (α × List UInt8)} (hf : ∀ l a t, f l = some (a, t) → t.length + 1 ≤ l.length) {l : List UInt8} {r : List α} {t : List UInt8} (h : list0 b e f l = some (r, t)) : t.length + 2 + r.length ≤ l.length := by
 unfold list0 at h
 have hb := Tx.bare_le l
 split at h
 ·rename_i hc
  have h1 := Wt.aft_len hc
  have h2 := Tx.bare_le (Tx.aft [b] (Tx.bare l))
  split at h
  ·rename_i he
   cases h
   have h3 := Wt.aft_len he
   simp; omega
  ·have := items0_lt hf _ _ _ _ h
   omega
 ·cases h
theorem mem_lt {nm : Bool} {f : List UInt8 → Option (V × List UInt8)} (hf : ∀ l a t, f l = some (a, t) → t.length + 1 ≤ l.length) (l : List UInt8) (x : List Int × V) (t : List UInt8) (h : mem nm f l = some (x, t)) : t.length + 1 ≤ l.length := by
 unfold mem at h
 split at h
 ·simp only [Option.bind_eq_some_iff] at h
  obtain ⟨⟨c, s⟩, h1, h⟩ := h
  have h2 := str_lt h1
  have h3 := Tx.bare_le l
  have h4 := Tx.bare_le s
  simp only at h
  split at h
  ·rename_i hc
   have h5 := Wt.aft_len hc
   simp only [Option.map_eq_some_iff] at h
   obtain ⟨⟨v, s2⟩, h6, h7⟩ := h
   cases h7
   try dsimp only at *
   have := hf _ _ _ h6
   omega
  ·cases h
 ·simp only [Option.map_eq_some_iff] at h
  obtain ⟨⟨v, s2⟩, h6, h7⟩ := h
  cases h7
  try dsimp only at *
  exact hf _ _ _ h6
theorem pre_len {k l : List UInt8} (h : Tx.pre k l = true) : k.length ≤ l.length := by
 unfold Tx.pre at h
 have := congrArg List.length (beq_iff_eq.1 h)
 rw [List.length_take] at this
 omega
theorem leaf_lt {s : List UInt8} {v : V} {t : List UInt8} (h : leaf s = some (v, t)) : t.length + 1 ≤ s.length := by
 unfold leaf at h
 split at h
 ·rename_i h0
  have := pre_len h0
  cases h; simp [tru] at this ⊢; omega
 ·split at h
  ·rename_i h0
   have := pre_len h0
   cases h; simp [fal] at this ⊢; omega
  ·split at h
   ·rename_i h0
    have := pre_len h0
    cases h; simp [nul] at this ⊢; omega
   ·split at h
    ·simp only [Option.map_eq_some_iff] at h
     obtain ⟨⟨c, s2⟩, h1, h2⟩ := h
     cases h2
     try dsimp only at *
     have := str_lt h1
     omega
    ·split at h
     ·cases h
     ·rename_i h0
      cases h
      have := Tx.num_le false s
      rw [List.length_drop]; omega
theorem rd_lt : ∀ (d : Nat) (l : List UInt8) (v : V) (t : List UInt8), rd d l = some (v, t) → t.length + 1 ≤ l.length
  | 0, l, v, t, h => by
    simp only [rd] at h
    have hb := Tx.bare_le l
    split at h
    · cases h
    · have := leaf_lt h; omega
  | d + 1, l, v, t, h => by
    have ih := rd_lt d
    simp only [rd] at h
    have hb := Tx.bare_le l
    split at h
    · simp only [Option.map_eq_some_iff] at h
      obtain ⟨⟨r, s⟩, h1, h2⟩ := h
      cases h2
      try dsimp only at *
      have := list0_lt (mem_lt ih) h1
      omega
    · split at h
      · simp only [Option.map_eq_some_iff] at h
        obtain ⟨⟨r, s⟩, h1, h2⟩ := h
        cases h2
        try dsimp only at *
        have := list0_lt (mem_lt ih) h1
        omega
      · have := leaf_lt h; omega
theorem items_lt {α : Type} {e : UInt8} {f : List UInt8 → Bool → Res α} {Q : α → Prop} (hf : ∀ l o a t o', f l o = some (a, t, o') → t.length + 1 ≤ l.length ∧ (l.length ≤ 6000 → Q a)) :
    ∀ (k : Nat) (l : List UInt8) (o : Bool) (r : List α) (t : List UInt8) (o' : Bool), items e f k l o = some (r, t, o') → t.length + 1 + r.length ≤ l.length ∧ (l.length ≤ 6000 → ∀ a ∈ r, Q a)
  | 0, l, o, r, t, o', h => by cases h
  | k + 1, l, o, r, t, o', h => by
    simp only [items, Option.bind_eq_some_iff] at h
    obtain ⟨⟨a, s, o1⟩, h1, h⟩ := h
    have h2 := hf _ _ _ _ _ h1
    have hb := Tx.bare_le s
    simp only at h
    split at h
    · rename_i hc
      simp only [Option.map_eq_some_iff] at h
      obtain ⟨⟨r2, t2, o2⟩, h3, h4⟩ := h
      cases h4
      try dsimp only at *
      have h5 := items_lt hf k _ _ _ _ _ h3
      have h6 := Wt.aft_len hc
      refine ⟨by simp; omega, fun hl b hb' => ?_⟩
      rcases List.mem_cons.1 hb' with rfl | hb'
      · exact h2.2 hl
      · exact h5.2 (by omega) b hb'
    · split at h
      · rename_i hc
        cases h
        have h6 := Wt.aft_len hc
        refine ⟨by simp; omega, fun hl b hb' => ?_⟩
        simp at hb'
        rw [hb']
        exact h2.2 hl
      · cases h
theorem list_lt {α : Type} {b e : UInt8} {f : List UInt8 → Bool → Res α} {Q : α → Prop} (hf : ∀ l o a t o', f l o = some (a, t, o') → t.length + 1 ≤ l.length ∧ (l.length ≤ 6000 → Q a)) {l t : List UInt8} {o o' : Bool} {r : List α} (h : list b e f l o = some (r, t, o')) : t.length + 1 ≤ l.length ∧ (l.length ≤ 6000 → r.length ≤ 6000 ∧ ∀ a ∈ r, Q a) := by
 unfold list at h
 have hb := Tx.bare_le l
 split at h
 ·rename_i hc
  have h1 := Wt.aft_len hc
  have h2 := Tx.bare_le (Tx.aft [b] (Tx.bare l))
  split at h
  ·rename_i he
   cases h
   have h3 := Wt.aft_len he
   exact ⟨by omega, fun _ => ⟨by simp, by simp⟩⟩
  ·have := items_lt hf _ _ _ _ _ _ h
   exact ⟨by omega, fun hl => ⟨by omega, this.2 (by omega)⟩⟩
 ·cases h
theorem coord_cv {p : Bool} {l t : List UInt8} {o o' : Bool} {x : Int} (h : Wt.coord p l o = some (x, t, o')) : -32768 ≤ x ∧ x ≤ 32768 := by
 unfold Wt.coord at h
 split at h
 ·cases h
 ·have := Option.some.inj h; simp only [Prod.mk.injEq] at this; rw [← this.1]; exact Wt.cv_le _
theorem pt_lt {l t : List UInt8} {o o' : Bool} {a : Pnt} (h : pt l o = some (a, t, o')) : t.length + 1 ≤ l.length ∧ (l.length ≤ 6000 → (-32768 ≤ a.1 ∧ a.1 ≤ 32768) ∧ -32768 ≤ a.2 ∧ a.2 ≤ 32768) := by
 unfold pt at h
 have hb := Tx.bare_le l
 split at h
 ·rename_i hc
  have h1 := Wt.aft_len hc
  simp only [Option.bind_eq_some_iff] at h
  obtain ⟨⟨x, l1, o1⟩, hx, h⟩ := h
  have h2 := Wt.coord_lt hx
  have hb1 := Tx.bare_le l1
  simp only at h
  split at h
  ·rename_i hc2
   have h3 := Wt.aft_len hc2
   simp only [Option.bind_eq_some_iff] at h
   obtain ⟨⟨y, l2, o2⟩, hy, h⟩ := h
   have h4 := Wt.coord_lt hy
   have hb2 := Tx.bare_le l2
   simp only at h
   split at h
   ·rename_i hc3
    have h5 := Wt.aft_len hc3
    cases h
    exact ⟨by omega, fun _ => ⟨coord_cv hx, coord_cv hy⟩⟩
   ·cases h
  ·cases h
 ·cases h
theorem ring_lt {l t : List UInt8} {o o' : Bool} {r : Ring} (h : ring l o = some (r, t, o')) : t.length + 1 ≤ l.length ∧ (l.length ≤ 6000 → Bn.okR r) := list_lt (fun _ _ _ _ _ h => pt_lt h) h
theorem poly_lt {l t : List UInt8} {o o' : Bool} {r : Poly} (h : poly l o = some (r, t, o')) : t.length + 1 ≤ l.length ∧ (l.length ≤ 6000 → Bn.okL r) := list_lt (fun _ _ _ _ _ h => ring_lt h) h
theorem polys_lt {l t : List UInt8} {o o' : Bool} {r : Mult} (h : polys l o = some (r, t, o')) : t.length + 1 ≤ l.length ∧ (l.length ≤ 6000 → Bn.okM r) := list_lt (fun _ _ _ _ _ h => poly_lt h) h
def okE : M → Prop
 | .coords m => Bn.okM m
 | _ => True
theorem memV_lt {n : List Int} {l t : List UInt8} {o o' : Bool} {a : M} (h : memV n l o = some (a, t, o')) : t.length + 1 ≤ l.length ∧ (l.length ≤ 6000 → okE a) := by
 unfold memV at h
 have hb := Tx.bare_le l
 split at h
 ·simp only [Option.bind_eq_some_iff] at h
  obtain ⟨⟨c, s⟩, h1, h⟩ := h
  have := str_lt h1
  simp only at h
  split at h
  ·cases h; exact ⟨by omega, fun _ => trivial⟩
  ·cases h
 ·split at h
  ·simp only [Option.map_eq_some_iff] at h
   obtain ⟨⟨m, s, o2⟩, h1, h2⟩ := h
   cases h2
   try dsimp only at *
   exact polys_lt h1
  ·simp only [Option.map_eq_some_iff] at h
   obtain ⟨⟨m, s⟩, h1, h2⟩ := h
   cases h2
   try dsimp only at *
   exact ⟨rd_lt _ _ _ _ h1, fun _ => trivial⟩
theorem memS_lt (l : List UInt8) (o : Bool) (a : M) (t : List UInt8) (o' : Bool) (h : memS l o = some (a, t, o')) : t.length + 1 ≤ l.length ∧ (l.length ≤ 6000 → okE a) := by
 unfold memS at h
 have hb := Tx.bare_le l
 simp only [Option.bind_eq_some_iff] at h
 obtain ⟨⟨c, s⟩, h1, h⟩ := h
 have h2 := str_lt h1
 have h3 := Tx.bare_le s
 simp only at h
 split at h
 ·rename_i hc
  have h5 := Wt.aft_len hc
  have := memV_lt h
  exact ⟨by omega, fun hl => this.2 (by omega)⟩
 ·cases h
theorem last_ok {r : List M} (h : ∀ a ∈ r, okE a) : Bn.okM (last r) := by
  unfold last
  cases hp : (places r).getLast? with
  | none => exact ⟨by simp, by simp⟩
  | some m =>
    have := List.mem_of_getLast? hp
    unfold places at this
    rw [List.mem_filterMap] at this
    obtain ⟨a, ha, hm⟩ := this
    have h2 := h a ha
    cases a with
    | coords m' => cases hm; exact h2
    | type => cases hm
    | other => cases hm
theorem got_ok {l : List UInt8} (hl : l.length ≤ 6000) : Bn.okM (got l) := by
  unfold got
  cases h : set l with
  | none => exact ⟨by simp, by simp⟩
  | some x =>
    unfold set at h
    simp only [Option.bind_eq_some_iff] at h
    obtain ⟨⟨r, t, o⟩, h1, h2⟩ := h
    simp only at h2
    split at h2
    · cases h2
      exact last_ok ((list_lt memS_lt h1).2 hl).2
    · cases h2
theorem err_of {l t : List UInt8} {m : Mult} {bad o : Bool} (h : set l = if bad = true then none else some (m, t, o)) : err l = Tx.fin (Tx.bare t) bad o := by
 unfold err
 rw [h]
 cases bad
 ·rfl
 ·simp [Tx.fin]
theorem got_of {l t : List UInt8} {m : Mult} {bad o : Bool} (h : set l = if bad = true then none else some (m, t, o)) (hb : bad = false) : got l = m := by
 unfold got
 rw [h, hb]
 rfl
end Js
end Go.Proofs.YtcclepohmhdpbabGreatDoor
namespace Go.Proofs.YtcclepohmhdpbabGreatDoor
set_option linter.all false
open Go.RowKit Go.Deep
set_option maxHeartbeats 4000000 in
theorem split_nil (w : World) :
  Calls Tryz.prog 165 #[.string (bs [])] w fun e w' => e = .returned (.agg #[.bool false, .string (bs []), .int .i64 0]) ∧ Up w w' := by
 obtain ⟨e0, e1, e2, e3, e4, e5⟩ := bs_tells []
 clear e1 e4 e5
 go_enter Tryz.func165, Tryz.ntmps165
 go_wp2_with (first
  | (go_at_call 155; refine (signLength_any [] _ (by simp)).mono ?_; rintro e w' ⟨j, rfl, rfl, hj, hle⟩; obtain rfl : j = 0 := hj.out.trans rfl; clear hj hle)
  | (go_at_call 156; refine (digitsLength_let [] _ (by simp)).mono ?_; rintro e w' ⟨j, rfl, rfl, hj, hle⟩; obtain rfl : j = 0 := hj.out.trans rfl; clear hj hle))
 refine ret_split rfl rfl (vrow_new1 _ _ _ _ _ _) ⟨rfl, ((Up.refl _).alloc _).alloc _⟩
theorem unitsNil (w : World) :
  Calls Tryz.prog 164 #[.string (bs [])] w fun e w' => e = .returned (.tuple #[.int .i64 0, .bool true]) ∧ Up w w' :=
 Units_any [] [] false 0 w (fun w => split_nil w) (fun c hc => by cases hc) (by simp) (by omega) (by omega)
def PCooPost (l : List UInt8) (bad off : Bool) (rb : Nat) (w : World) (e : Ending) (w' : World) : Prop :=
 ∃ (x : Int) (l' : List UInt8) (bad' off' : Bool), e = .returned (.int .i64 x) ∧ RT w' rb l' bad' off' ∧ Fr (· = rb) w w' ∧ (if bad = true then none else Wt.coord true l off) = (if bad' = true then none else some (x, l', off')) ∧ l'.length ≤ l.length
set_option maxRecDepth 100000 in
set_option maxHeartbeats 2000000 in
theorem pnumber_any (l : List UInt8) (hb : Tx.bare l = l) (bad off : Bool) (rb : Nat) (w : World) (hr : RT w rb l bad off) (hl : l.length ≤ 6000) :
  Calls Tryz.prog 161 #[.pointer (some ⟨rb, 0, none⟩)] w (PCooPost l bad off rb w) := by
 obtain ⟨n, hn⟩ : ∃ n, n = Tx.num true l := ⟨_, rfl⟩
 have hnl : n ≤ l.length := by rw [hn]; exact Tx.num_le true l
 have HN := hide hn
 have HBB := hide hb
 have c0 := hr.c0
 have HR := hide hr
 clear hn hr hb
 have hcoo : ∀ (w : World), RT w rb l bad off → Calls Tryz.prog 163 #[.pointer (some ⟨rb, 0, none⟩), .int .i64 n] w (PCooPost l bad off rb w) := by
  intro w hr
  have HR := hide hr
  clear hr
  by_cases h0 : n = 0
  ·subst h0
   have HE := hide (Wt.coord_none (p := true) (l := l) (o := off) (by rw [HBB.out, ← HN.out]))
   go_enter Tryz.func163, Tryz.ntmps163
   go_wp2_with fail
   refine (number_bad l bad off rb _ HR.out).mono ?_
   rintro e w1 ⟨rfl, h1, u1⟩
   replace h1 := hide h1
   replace u1 := hide u1
   go_wp2_with fail
   refine (unitsNil _).mono ?_
   rintro e w2 ⟨rfl, u2⟩
   replace u2 := hide u2
   go_wp2
   go_ret
   exact ⟨0, l, true, off, rfl, VRow.of_block h1.out (u2.out.block _ (VRow.lt h1.out)), u1.out.trans (Fr.of_up u2.out), by cases bad <;> simp [HE.out], Nat.le_refl _⟩
  ·have HE := hide (Wt.coord_some (p := true) (l := l) (o := off) (by rw [HBB.out, ← HN.out]; exact h0))
   rw [HBB.out, ← HN.out] at HE
   have HSh : Hid (Du.Shape (l.take n)) := by
    rw [HN.out]
    exact Du.num_shape (by rw [← HN.out]; omega)
   have hsl : (l.take n).length ≤ 6000 := by rw [List.length_take]; omega
   have HUV := hide (Wt.unitsV_eq (l.take n))
   obtain ⟨x, hx⟩ : ∃ x, x = Wt.cv (l.take n) := ⟨_, rfl⟩
   obtain ⟨ok, hok⟩ : ∃ ok, ok = (Du.units (l.take n)).isNone := ⟨_, rfl⟩
   rw [← hx, ← hok] at HUV HE
   have hpos : 0 < n := by omega
   clear hx hok h0
   cases ok
   ·go_enter Tryz.func163, Tryz.ntmps163
    go_wp2_with fail
    refine (number_ok l n bad off rb _ HR.out hl hpos hnl).mono ?_
    rintro e w1 ⟨rfl, h1, u1⟩
    replace h1 := hide h1
    replace u1 := hide u1
    go_wp2_with fail
    refine (pUnits_any _ HSh.out hsl _).mono ?_
    rintro e w2 ⟨rfl, u2⟩
    rw [HUV.out]
    replace u2 := hide u2
    go_wp2
    go_ret
    exact ⟨x, l.drop n, bad, off, rfl, VRow.of_block h1.out (u2.out.block _ (VRow.lt h1.out)), u1.out.trans (Fr.of_up u2.out), by cases bad <;> simp [HE.out], by simp⟩
   ·go_enter Tryz.func163, Tryz.ntmps163
    go_wp2_with fail
    refine (number_ok l n bad off rb _ HR.out hl hpos hnl).mono ?_
    rintro e w1 ⟨rfl, h1, u1⟩
    replace h1 := hide h1
    replace u1 := hide u1
    go_wp2_with fail
    refine (pUnits_any _ HSh.out hsl _).mono ?_
    rintro e w2 ⟨rfl, u2⟩
    rw [HUV.out]
    have h2 : RT w2 rb (l.drop n) bad off := VRow.of_block h1.out (u2.block _ (VRow.lt h1.out))
    obtain ⟨-, -, d2, -, -, g2⟩ := h2.facts
    replace h2 := hide h2
    replace u2 := hide u2
    go_wp2
    go_ret
    exact ⟨x, l.drop n, bad, true, rfl, h2.out.off true, (u1.out.trans (Fr.of_up u2.out)).setCell (p := ⟨rb, 2, none⟩) rfl _, by cases bad <;> simp [HE.out], by simp⟩
 have HCoo := hide hcoo
 clear hcoo
 go_enter Tryz.func161, Tryz.ntmps161
 go_wp2_with fail
 refine (Length_any l _ (by omega)).mono ?_
 rintro e w1 ⟨rfl, hw⟩
 replace hw := hw.symm
 subst hw
 rw [← HN.out]
 go_wp2_with fail
 refine (HCoo.out _ HR.out).mono ?_
 rintro e w2 ⟨x, l', b', o', rfl, h⟩
 replace h := hide h
 go_wp2
 go_ret
 exact ⟨x, l', b', o', rfl, h.out⟩
namespace Js
def fst (l : List UInt8) : Int := match l with
 | [] => 0
 | c :: _ => c.toNat
theorem fst_at (l : List UInt8) : fst l = Tx.at_ l 0 ∨ (fst l = 0 ∧ l = [] ∧ Tx.at_ l 0 = -1) := by
 cases l with
 | nil => exact .inr ⟨rfl, rfl, rfl⟩
 | cons c t => exact .inl rfl
theorem fst_nn (l : List UInt8) : 0 ≤ fst l ∧ fst l ≤ 255 := by
 cases l with
 | nil => simp [fst]
 | cons c t => have := c.toNat_lt; simp only [fst]; omega
theorem fst_eq {l : List UInt8} {x : Int} (hx : x ≠ 0) (hx1 : x ≠ -1) : fst l = x ↔ Tx.at_ l 0 = x := by
 rcases fst_at l with h | ⟨h, -, h2⟩
 ·rw [h]
 ·rw [h, h2]
  constructor
  ·intro e; exact absurd e.symm hx
  ·intro e; exact absurd e.symm hx1
theorem hexd_fst (l : List UInt8) : hexd (fst l) = hexd (Tx.at_ l 0) := by
 rcases fst_at l with h | ⟨h, -, h2⟩
 ·rw [h]
 ·rw [h, h2]; rfl
theorem mean_fst (l : List UInt8) : mean (fst l) = mean (Tx.at_ l 0) := by
 rcases fst_at l with h | ⟨h, -, h2⟩
 ·rw [h]
 ·rw [h, h2]; rfl
theorem hexd_le {x v : Int} (h : hexd x = some v) : 0 ≤ v ∧ v ≤ 15 := by
 unfold hexd at h
 split at h
 ·have := Option.some.inj h; omega
 ·split at h
  ·have := Option.some.inj h; omega
  ·split at h
   ·have := Option.some.inj h; omega
   ·cases h
theorem mean_le {x v : Int} (h : mean x = some v) : 0 ≤ v ∧ v ≤ 92 ∧ (x ≠ -1) := by
 unfold mean at h
 split at h
 ·have := Option.some.inj h; omega
 ·split at h
  ·have := Option.some.inj h; omega
  ·split at h
   ·have := Option.some.inj h; omega
   ·split at h
    ·have := Option.some.inj h; omega
    ·split at h
     ·have := Option.some.inj h; omega
     ·split at h
      ·have := Option.some.inj h; omega
      ·cases h
theorem num_false (l : List UInt8) : Tx.num false l = if Tx.at_ l 0 = 43 then 0 else if Tx.at_ l (Tx.sgn false l 0) = 48 ∧ Tx.digit (Tx.at_ l (Tx.sgn false l 0 + 1)) = true then 0 else Tx.num true l := by
  have hsg : Tx.at_ l 0 ≠ 43 → Tx.sgn true l 0 = Tx.sgn false l 0 := by intro h; simp [Tx.sgn, h]
  by_cases h1 : Tx.at_ l 0 = 43
  · rw [if_pos h1]
    by_cases h0 : Tx.num false l = 0
    · exact h0
    · have := num_first h0; omega
  · rw [if_neg h1]
    unfold Tx.num
    rw [hsg h1]
    generalize Tx.sgn false l 0 = n
    unfold Tx.num1
    by_cases h2 : Tx.at_ l n = 48 ∧ Tx.digit (Tx.at_ l (n + 1)) = true
    · rw [if_pos h2]
      obtain ⟨ha, hb⟩ := h2
      have hn : n < l.length := Tx.lt_of_at (by omega)
      have hn1 : n + 1 < l.length := Tx.lt_of_at (by intro e; rw [e] at hb; simp [Tx.digit] at hb)
      have hd0 : Tx.digit (l[n].toNat : Int) = true := by rw [← Tx.at_lt hn, ha]; rfl
      have hd1 : Tx.digit (l[n + 1].toNat : Int) = true := by rw [← Tx.at_lt hn1]; exact hb
      have : 1 < Tx.lead (l.drop n) := by
        rw [Tx.drop_cons hn, Tx.lead_cons, if_pos hd0, Tx.drop_cons hn1, Tx.lead_cons, if_pos hd1]
        omega
      rw [if_neg (by omega), if_pos ⟨rfl, this, ha⟩]
    · rw [if_neg h2]
      have : ¬ (1 < Tx.lead (l.drop n) ∧ Tx.at_ l n = 48) := by
        rintro ⟨h3, h4⟩
        refine h2 ⟨h4, ?_⟩
        have hn : n < l.length := Tx.lt_of_at (by omega)
        rw [Tx.drop_cons hn, Tx.lead_cons] at h3
        split at h3
        · cases hr : l.drop (n + 1) with
          | nil => rw [hr] at h3; simp [Tx.lead] at h3
          | cons c t =>
            have hc : Tx.at_ l (n + 1) = c.toNat := by
              have := Tx.at_drop l (n + 1) 0
              rw [hr] at this
              simpa [Tx.at_zero] using this.symm
            rw [hr, Tx.lead_cons] at h3
            rw [hc]
            cases hd : Tx.digit (c.toNat : Int)
            · rw [hd] at h3; simp at h3
            · rfl
        · omega
      by_cases h5 : Tx.lead (l.drop n) = 0
      · rw [if_pos h5, if_pos h5]
      · rw [if_neg h5, if_neg h5, if_neg (fun h => this h.2), if_neg (by simp)]
theorem lead_of {l : List UInt8} {n : Nat} (ha : Tx.at_ l n = 48) (hb : Tx.digit (Tx.at_ l (n + 1)) = true) : 1 < Tx.lead (l.drop n) := by
 have hn : n < l.length := Tx.lt_of_at (by omega)
 have hn1 : n + 1 < l.length := Tx.lt_of_at (by intro e; rw [e] at hb; simp [Tx.digit] at hb)
 have hd0 : Tx.digit (l[n].toNat : Int) = true := by rw [← Tx.at_lt hn, ha]; rfl
 have hd1 : Tx.digit (l[n + 1].toNat : Int) = true := by rw [← Tx.at_lt hn1]; exact hb
 rw [Tx.drop_cons hn, Tx.lead_cons, if_pos hd0, Tx.drop_cons hn1, Tx.lead_cons, if_pos hd1]
 omega
theorem num3_ge (l : List UInt8) (n : Nat) : Tx.num3 l n = 0 ∨ n ≤ Tx.num3 l n := by
 unfold Tx.num3
 split
 ·split
  ·exact .inl rfl
  ·exact .inr (by omega)
 ·exact .inr (Nat.le_refl _)
theorem num2_ge (l : List UInt8) (n : Nat) : Tx.num2 l n = 0 ∨ n ≤ Tx.num2 l n := by
 unfold Tx.num2
 split
 ·split
  ·exact .inl rfl
  ·rcases num3_ge l (n + 1 + Tx.lead (l.drop (n + 1))) with h | h
   ·exact .inl h
   ·exact .inr (by omega)
 ·exact num3_ge l n
theorem num_ge {p : Bool} {l : List UInt8} (h : Tx.num p l ≠ 0) : Tx.sgn p l 0 + Tx.lead (l.drop (Tx.sgn p l 0)) ≤ Tx.num p l ∧ 1 ≤ Tx.lead (l.drop (Tx.sgn p l 0)) := by
 unfold Tx.num at h ⊢
 generalize Tx.sgn p l 0 = n at h ⊢
 unfold Tx.num1 at h ⊢
 split
 ·rename_i h1; rw [if_pos h1] at h; simp at h
 ·rename_i h1
  rw [if_neg h1] at h
  split
  ·rename_i h2; rw [if_pos h2] at h; simp at h
  ·rename_i h2
   rw [if_neg h2] at h
   rcases num2_ge l (n + Tx.lead (l.drop n)) with h3 | h3
   ·exact absurd h3 h
   ·exact ⟨h3, by omega⟩
end Js
set_option maxHeartbeats 1000000 in
theorem first_any (l : List UInt8) (w : World) (hl : l.length ≤ 6000) :
    Calls Tryz.prog 119 #[.string (bs l)] w fun e w' => e = .returned (.int .u8 (Js.fst l)) ∧ w' = w := by
  obtain ⟨e0, e1, e2, e3, e4, e5⟩ := bs_tells l
  clear e2 e3 e4 e5
  cases l with
  | nil =>
    go_enter Tryz.func119, Tryz.ntmps119
    go_wp2
    go_ret
    exact ⟨rfl, rfl⟩
  | cons c t =>
    have e6 := Tx.at_zero c t
    have e7 : ¬ ((c :: t).length : Int) = 0 := by simp only [List.length_cons]; omega
    have e8 : 0 < (c :: t).length := by simp
    go_enter Tryz.func119, Tryz.ntmps119
    go_wp2
    go_ret
    exact ⟨by simp [Js.fst, e6], rfl⟩
set_option maxHeartbeats 1000000 in
theorem digitOf_any (x : Int) (h0 : 0 ≤ x) (h1 : x ≤ 255) (w : World) :
  Calls Tryz.prog 162 #[.int .u8 x] w fun e w' => e = .returned (.int .i64 ((Js.hexd x).getD (-1))) ∧ w' = w := by
 unfold Js.hexd
 by_cases a1 : 48 ≤ x ∧ x ≤ 57
 ·rw [if_pos a1]
  obtain ⟨b1, b2⟩ := a1
  go_enter Tryz.func162, Tryz.ntmps162
  go_wp2
  go_ret
  exact ⟨by go_num, rfl⟩
 ·rw [if_neg a1]
  by_cases a2 : 97 ≤ x ∧ x ≤ 102
  ·rw [if_pos a2]
   obtain ⟨b1, b2⟩ := a2
   have b3 : ¬ x ≤ 57 := by omega
   go_enter Tryz.func162, Tryz.ntmps162
   go_wp2
   all_goals
    go_ret
    exact ⟨by go_num, rfl⟩
  ·rw [if_neg a2]
   by_cases a3 : 65 ≤ x ∧ x ≤ 70
   ·rw [if_pos a3]
    obtain ⟨b1, b2⟩ := a3
    have b3 : ¬ x ≤ 57 := by omega
    have b4 : ¬ 97 ≤ x := by omega
    go_enter Tryz.func162, Tryz.ntmps162
    go_wp2
    all_goals
     go_ret
     exact ⟨by go_num, rfl⟩
   ·rw [if_neg a3]
    go_enter Tryz.func162, Tryz.ntmps162
    go_wp2
    all_goals first
     | (exfalso; omega)
     | (go_ret; exact ⟨rfl, rfl⟩)
set_option maxHeartbeats 2000000 in
theorem meaning_any (x : Int) (w : World) :
  Calls Tryz.prog 159 #[.int .u8 x] w fun e w' => e = .returned (.int .i64 ((Js.mean x).getD (-1))) ∧ w' = w := by
 unfold Js.mean
 by_cases a1 : x = 34
 ·subst a1
  go_enter Tryz.func159, Tryz.ntmps159
  go_wp2
  go_ret
  exact ⟨rfl, rfl⟩
 by_cases a2 : x = 92
 ·subst a2
  go_enter Tryz.func159, Tryz.ntmps159
  go_wp2
  go_ret
  exact ⟨rfl, rfl⟩
 by_cases a3 : x = 47
 ·subst a3
  go_enter Tryz.func159, Tryz.ntmps159
  go_wp2
  go_ret
  exact ⟨rfl, rfl⟩
 rw [if_neg (by omega)]
 by_cases a4 : x = 98
 ·subst a4
  go_enter Tryz.func159, Tryz.ntmps159
  go_wp2
  go_ret
  exact ⟨rfl, rfl⟩
 by_cases a5 : x = 102
 ·subst a5
  go_enter Tryz.func159, Tryz.ntmps159
  go_wp2
  go_ret
  exact ⟨rfl, rfl⟩
 by_cases a6 : x = 110
 ·subst a6
  go_enter Tryz.func159, Tryz.ntmps159
  go_wp2
  go_ret
  exact ⟨rfl, rfl⟩
 by_cases a7 : x = 114
 ·subst a7
  go_enter Tryz.func159, Tryz.ntmps159
  go_wp2
  go_ret
  exact ⟨rfl, rfl⟩
 by_cases a8 : x = 116
 ·subst a8
  go_enter Tryz.func159, Tryz.ntmps159
  go_wp2
  go_ret
  exact ⟨rfl, rfl⟩
 rw [if_neg a4, if_neg a5, if_neg a6, if_neg a7, if_neg a8]
 have c1 := beq_eq_false_iff_ne.2 a1
 have c2 := beq_eq_false_iff_ne.2 a2
 have c3 := beq_eq_false_iff_ne.2 a3
 have c4 := beq_eq_false_iff_ne.2 a4
 have c5 := beq_eq_false_iff_ne.2 a5
 have c6 := beq_eq_false_iff_ne.2 a6
 have c7 := beq_eq_false_iff_ne.2 a7
 have c8 := beq_eq_false_iff_ne.2 a8
 go_enter Tryz.func159, Tryz.ntmps159
 go_wp2
 go_ret
 exact ⟨rfl, rfl⟩
set_option maxRecDepth 100000 in
set_option maxHeartbeats 4000000 in
theorem numberLength_any (l : List UInt8) (w : World) (hl : l.length ≤ 6000) :
  Calls Tryz.prog 122 #[.string (bs l)] w fun e w' => e = .returned (.int .i64 (Tx.num false l : Nat)) ∧ w' = w := by
 obtain ⟨n, hn⟩ : ∃ n, n = Tx.num true l := ⟨_, rfl⟩
 have hnl : n ≤ l.length := by rw [hn]; exact Tx.num_le true l
 have HN := hide hn
 have HNF := hide (Js.num_false l)
 obtain ⟨q, hq⟩ : ∃ q, q = l.take n := ⟨_, rfl⟩
 have hql : q.length = n := by rw [hq, List.length_take]; omega
 have hqa : ∀ i, i < n → Tx.at_ q i = Tx.at_ l i := by
  intro i hi
  rw [hq]
  simp [Tx.at_, List.getElem?_take, hi]
 have e3 : ∀ b : Nat, b = n → (bs l).extract 0 b = bs q := fun b hb => by rw [hb, hq]; exact bs_take l n
 have HFQ := hide (fun w => first_any q w (by omega))
 clear hn
 obtain ⟨m, hm⟩ : ∃ m, m = Tx.sgn false l 0 := ⟨_, rfl⟩
 obtain ⟨u, hu⟩ : ∃ u, u = q.drop m := ⟨_, rfl⟩
 have hul : u.length = n - m := by rw [hu, List.length_drop, hql]
 have hua : ∀ i, m + i < n → Tx.at_ u i = Tx.at_ l (m + i) := by
  intro i hi
  rw [hu, Tx.at_drop, hqa _ hi]
 have HR : Hid (Tx.num false l = if 1 < u.length ∧ Tx.at_ u 0 = 48 ∧ 48 ≤ Tx.at_ u 1 ∧ Tx.at_ u 1 ≤ 57 ∧ Tx.at_ l 0 ≠ 43 then 0 else if Tx.at_ l 0 = 43 then 0 else n) := by
  have h := HNF.out
  rw [← hm, ← HN.out] at h
  show _ = _
  rw [h]
  by_cases h1 : Tx.at_ l 0 = 43
  ·simp [h1]
  ·rw [if_neg h1, if_neg h1]
   by_cases h2 : Tx.at_ l m = 48 ∧ Tx.digit (Tx.at_ l (m + 1)) = true
   ·rw [if_pos h2]
    split
    ·rfl
    ·rename_i h3
     by_cases hn0 : n = 0
     ·rw [hn0]
     ·exfalso
      have hs : Tx.sgn true l 0 = m := by rw [hm]; simp [Tx.sgn, h1]
      have h4 := Js.num_ge (p := true) (l := l) (by rw [← HN.out]; exact hn0)
      rw [hs, ← HN.out] at h4
      have h5 := Js.lead_of h2.1 h2.2
      have a0 := hua 0 (by omega)
      have a1 := hua 1 (by omega)
      have h6 : 48 ≤ Tx.at_ l (m + 1) ∧ Tx.at_ l (m + 1) ≤ 57 := by simpa [Tx.digit] using h2.2
      rw [Nat.add_zero] at a0
      exact h3 ⟨by omega, by rw [a0]; exact h2.1, by rw [a1]; exact h6.1, by rw [a1]; exact h6.2, h1⟩
   ·rw [if_neg h2]
    split
    ·rename_i h3
     exfalso
     obtain ⟨b1, b2, b3, b4, -⟩ := h3
     have a0 := hua 0 (by omega)
     have a1 := hua 1 (by omega)
     rw [Nat.add_zero] at a0
     rw [a0] at b2
     rw [a1] at b3 b4
     exact h2 ⟨b2, by simp [Tx.digit, b3, b4]⟩
    ·rfl
 obtain ⟨R, hR⟩ : ∃ R, R = Tx.num false l := ⟨_, rfl⟩
 rw [← hR] at HR ⊢
 have HL := hide (Length_any l w (by omega))
 rw [← HN.out] at HL
 have hsz0 := bs_size l
 have hsq := bs_size q
 obtain ⟨f, hf⟩ : ∃ f, f = Js.fst q := ⟨_, rfl⟩
 rw [← hf] at HFQ
 have hfq : n ≠ 0 → f = Tx.at_ l 0 := by
  intro h
  rw [hf]
  rcases Js.fst_at q with h1 | ⟨-, h1, -⟩
  ·rw [h1, hqa 0 (by omega)]
  ·rw [h1] at hql; simp at hql; omega
 have hf0 : n = 0 → f = 0 := by
  intro h
  have : q = [] := List.length_eq_zero_iff.1 (by omega)
  rw [hf, this]; rfl
 have hx := e3 n rfl
 obtain ⟨u0, u1, -, -, -, -⟩ := bs_tells u
 have q2 : (bs q).extract 1 n = bs (q.drop 1) := by rw [← hql]; exact (bs_tells q).drop 1
 clear hqa e3 HNF hR hua
 by_cases c43 : f = 43
 ·subst c43
  have hn0 : n ≠ 0 := fun h => by have := hf0 h; omega
  have ha := hfq hn0
  obtain rfl : R = 0 := by rw [HR.out]; simp [← ha]
  clear hfq hf0 HR u0 u1 q2 hm hu hul hq
  go_enter Tryz.func122, Tryz.ntmps122
  go_wp2_with fail
  refine HL.out.mono ?_
  rintro e w1 ⟨rfl, hw⟩
  replace hw := hw.symm
  subst hw
  go_wp2_with fail
  refine (HFQ.out _).mono ?_
  rintro e w1 ⟨rfl, hw⟩
  replace hw := hw.symm
  subst hw
  go_wp2
  go_ret
  exact ⟨rfl, rfl⟩
 have hcs : (¬ 1 < u.length ∧ R = n) ∨ (1 < u.length ∧ Tx.at_ u 0 ≠ 48 ∧ R = n) ∨ (1 < u.length ∧ Tx.at_ u 0 = 48 ∧ ¬ 48 ≤ Tx.at_ u 1 ∧ R = n) ∨ (1 < u.length ∧ Tx.at_ u 0 = 48 ∧ 48 ≤ Tx.at_ u 1 ∧ ¬ Tx.at_ u 1 ≤ 57 ∧ R = n) ∨ (1 < u.length ∧ Tx.at_ u 0 = 48 ∧ 48 ≤ Tx.at_ u 1 ∧ Tx.at_ u 1 ≤ 57 ∧ R = 0) := by
  have h := HR.out
  by_cases hn0 : n = 0
  ·refine .inl ⟨by omega, ?_⟩
   rw [h, hn0]
   split
   ·rfl
   ·split <;> rfl
  have ha43 : Tx.at_ l 0 ≠ 43 := fun e => c43 ((hfq hn0).trans e)
  by_cases h1 : 1 < u.length
  ·by_cases h2 : Tx.at_ u 0 = 48
   ·by_cases h3 : 48 ≤ Tx.at_ u 1
    ·by_cases h4 : Tx.at_ u 1 ≤ 57
     ·rw [if_pos ⟨h1, h2, h3, h4, ha43⟩] at h
      exact .inr (.inr (.inr (.inr ⟨h1, h2, h3, h4, h⟩)))
     ·rw [if_neg (fun e => h4 e.2.2.2.1), if_neg ha43] at h
      exact .inr (.inr (.inr (.inl ⟨h1, h2, h3, h4, h⟩)))
    ·rw [if_neg (fun e => h3 e.2.2.1), if_neg ha43] at h
     exact .inr (.inr (.inl ⟨h1, h2, h3, h⟩))
   ·rw [if_neg (fun e => h2 e.2.1), if_neg ha43] at h
    exact .inr (.inl ⟨h1, h2, h⟩)
  ·rw [if_neg (fun e => h1 e.1), if_neg ha43] at h
   exact .inl ⟨h1, h⟩
 have b43 := beq_eq_false_iff_ne.2 c43
 by_cases c45 : f = 45
 ·have hn0 : n ≠ 0 := fun h => by have := hf0 h; omega
  have ha := hfq hn0
  obtain rfl : m = 1 := by rw [hm]; simp [Tx.sgn, ← ha, c45]
  rw [← hu] at q2
  have hn1 : (1 : Int) ≤ (n : Int) := by omega
  clear hfq hf0 HR hm hu ha hq
  subst c45
  have hn2 : 1 ≤ n := by omega
  rcases hcs with ⟨h1, rfl⟩ | ⟨h1, h2, rfl⟩ | ⟨h1, h2, h3, rfl⟩ | ⟨h1, h2, h3, h4, rfl⟩ | ⟨h1, h2, h3, h4, rfl⟩
  ·have g1 : ¬ (1 : Int) < (u.length : Int) := by omega
   go_enter Tryz.func122, Tryz.ntmps122
   go_wp2_with fail
   refine HL.out.mono ?_
   rintro e w1 ⟨rfl, hw⟩
   replace hw := hw.symm
   subst hw
   go_wp2_with fail
   refine (HFQ.out _).mono ?_
   rintro e w1 ⟨rfl, hw⟩
   replace hw := hw.symm
   subst hw
   go_wp2_with fail
   refine (HFQ.out _).mono ?_
   rintro e w1 ⟨rfl, hw⟩
   replace hw := hw.symm
   subst hw
   go_wp2
   go_ret
   exact ⟨rfl, rfl⟩
  ·have g1 : (1 : Int) < (u.length : Int) := by omega
   have g0 : 0 < u.length := by omega
   have g2 := beq_eq_false_iff_ne.2 h2
   go_enter Tryz.func122, Tryz.ntmps122
   go_wp2_with fail
   refine HL.out.mono ?_
   rintro e w1 ⟨rfl, hw⟩
   replace hw := hw.symm
   subst hw
   go_wp2_with fail
   refine (HFQ.out _).mono ?_
   rintro e w1 ⟨rfl, hw⟩
   replace hw := hw.symm
   subst hw
   go_wp2_with fail
   refine (HFQ.out _).mono ?_
   rintro e w1 ⟨rfl, hw⟩
   replace hw := hw.symm
   subst hw
   go_wp2
   go_ret
   exact ⟨rfl, rfl⟩
  ·have g1 : (1 : Int) < (u.length : Int) := by omega
   have g0 : 0 < u.length := by omega
   go_enter Tryz.func122, Tryz.ntmps122
   go_wp2_with fail
   refine HL.out.mono ?_
   rintro e w1 ⟨rfl, hw⟩
   replace hw := hw.symm
   subst hw
   go_wp2_with fail
   refine (HFQ.out _).mono ?_
   rintro e w1 ⟨rfl, hw⟩
   replace hw := hw.symm
   subst hw
   go_wp2_with fail
   refine (HFQ.out _).mono ?_
   rintro e w1 ⟨rfl, hw⟩
   replace hw := hw.symm
   subst hw
   go_wp2
   go_ret
   exact ⟨rfl, rfl⟩
  ·have g1 : (1 : Int) < (u.length : Int) := by omega
   have g0 : 0 < u.length := by omega
   go_enter Tryz.func122, Tryz.ntmps122
   go_wp2_with fail
   refine HL.out.mono ?_
   rintro e w1 ⟨rfl, hw⟩
   replace hw := hw.symm
   subst hw
   go_wp2_with fail
   refine (HFQ.out _).mono ?_
   rintro e w1 ⟨rfl, hw⟩
   replace hw := hw.symm
   subst hw
   go_wp2_with fail
   refine (HFQ.out _).mono ?_
   rintro e w1 ⟨rfl, hw⟩
   replace hw := hw.symm
   subst hw
   go_wp2
   go_ret
   exact ⟨rfl, rfl⟩
  ·have g1 : (1 : Int) < (u.length : Int) := by omega
   have g0 : 0 < u.length := by omega
   go_enter Tryz.func122, Tryz.ntmps122
   go_wp2_with fail
   refine HL.out.mono ?_
   rintro e w1 ⟨rfl, hw⟩
   replace hw := hw.symm
   subst hw
   go_wp2_with fail
   refine (HFQ.out _).mono ?_
   rintro e w1 ⟨rfl, hw⟩
   replace hw := hw.symm
   subst hw
   go_wp2_with fail
   refine (HFQ.out _).mono ?_
   rintro e w1 ⟨rfl, hw⟩
   replace hw := hw.symm
   subst hw
   go_wp2
   go_ret
   exact ⟨rfl, rfl⟩
 ·have b45 := beq_eq_false_iff_ne.2 c45
  obtain rfl : u = q := by
   by_cases hn0 : n = 0
   ·have : q = [] := List.length_eq_zero_iff.1 (by omega)
    rw [hu, this]; simp
   ·have ha := hfq hn0
    have : m = 0 := by rw [hm]; simp [Tx.sgn, ← ha, c45]
    rw [hu, this]; rfl
  clear hfq hf0 HR hm hu q2 hsq hq
  rcases hcs with ⟨h1, rfl⟩ | ⟨h1, h2, rfl⟩ | ⟨h1, h2, h3, rfl⟩ | ⟨h1, h2, h3, h4, rfl⟩ | ⟨h1, h2, h3, h4, rfl⟩
  ·have g1 : ¬ (1 : Int) < (u.length : Int) := by omega
   go_enter Tryz.func122, Tryz.ntmps122
   go_wp2_with fail
   refine HL.out.mono ?_
   rintro e w1 ⟨rfl, hw⟩
   replace hw := hw.symm
   subst hw
   go_wp2_with fail
   refine (HFQ.out _).mono ?_
   rintro e w1 ⟨rfl, hw⟩
   replace hw := hw.symm
   subst hw
   go_wp2_with fail
   refine (HFQ.out _).mono ?_
   rintro e w1 ⟨rfl, hw⟩
   replace hw := hw.symm
   subst hw
   go_wp2
   go_ret
   exact ⟨rfl, rfl⟩
  ·have g1 : (1 : Int) < (u.length : Int) := by omega
   have g0 : 0 < u.length := by omega
   have g2 := beq_eq_false_iff_ne.2 h2
   go_enter Tryz.func122, Tryz.ntmps122
   go_wp2_with fail
   refine HL.out.mono ?_
   rintro e w1 ⟨rfl, hw⟩
   replace hw := hw.symm
   subst hw
   go_wp2_with fail
   refine (HFQ.out _).mono ?_
   rintro e w1 ⟨rfl, hw⟩
   replace hw := hw.symm
   subst hw
   go_wp2_with fail
   refine (HFQ.out _).mono ?_
   rintro e w1 ⟨rfl, hw⟩
   replace hw := hw.symm
   subst hw
   go_wp2
   go_ret
   exact ⟨rfl, rfl⟩
  ·have g1 : (1 : Int) < (u.length : Int) := by omega
   have g0 : 0 < u.length := by omega
   go_enter Tryz.func122, Tryz.ntmps122
   go_wp2_with fail
   refine HL.out.mono ?_
   rintro e w1 ⟨rfl, hw⟩
   replace hw := hw.symm
   subst hw
   go_wp2_with fail
   refine (HFQ.out _).mono ?_
   rintro e w1 ⟨rfl, hw⟩
   replace hw := hw.symm
   subst hw
   go_wp2_with fail
   refine (HFQ.out _).mono ?_
   rintro e w1 ⟨rfl, hw⟩
   replace hw := hw.symm
   subst hw
   go_wp2
   go_ret
   exact ⟨rfl, rfl⟩
  ·have g1 : (1 : Int) < (u.length : Int) := by omega
   have g0 : 0 < u.length := by omega
   go_enter Tryz.func122, Tryz.ntmps122
   go_wp2_with fail
   refine HL.out.mono ?_
   rintro e w1 ⟨rfl, hw⟩
   replace hw := hw.symm
   subst hw
   go_wp2_with fail
   refine (HFQ.out _).mono ?_
   rintro e w1 ⟨rfl, hw⟩
   replace hw := hw.symm
   subst hw
   go_wp2_with fail
   refine (HFQ.out _).mono ?_
   rintro e w1 ⟨rfl, hw⟩
   replace hw := hw.symm
   subst hw
   go_wp2
   go_ret
   exact ⟨rfl, rfl⟩
  ·have g1 : (1 : Int) < (u.length : Int) := by omega
   have g0 : 0 < u.length := by omega
   go_enter Tryz.func122, Tryz.ntmps122
   go_wp2_with fail
   refine HL.out.mono ?_
   rintro e w1 ⟨rfl, hw⟩
   replace hw := hw.symm
   subst hw
   go_wp2_with fail
   refine (HFQ.out _).mono ?_
   rintro e w1 ⟨rfl, hw⟩
   replace hw := hw.symm
   subst hw
   go_wp2_with fail
   refine (HFQ.out _).mono ?_
   rintro e w1 ⟨rfl, hw⟩
   replace hw := hw.symm
   subst hw
   go_wp2
   go_ret
   exact ⟨rfl, rfl⟩
theorem RT.keep {w w' : World} {b : Nat} {l : List UInt8} {bad wide : Bool} {base : Nat} {e : TypeId} {size : Nat} {v : Value} {n : Nat} {xs : List Value} (h : RT w b l bad wide) (ho : w.ownsRow base e size v n xs) (he : e ≠ 86) (hg : w.grownBy w' v.ownBlock) : RT w' b l bad wide :=
 VRow.grown h hg (own_row_ne ho h he)
theorem RT.alloc {w : World} {b : Nat} {l : List UInt8} {bad wide : Bool} (h : RT w b l bad wide) (o : Obj) : RT (w.alloc o) b l bad wide := VRow.alloc h o
structure P1 (w wr : World) (b : Nat) (v : Value) (r : Ring) (l : List UInt8) (bad wide : Bool) : Prop where
 own : wr.ownsRow w.heap.size 48 2 v r.length (flat r)
 sd : RT wr b l bad wide
 fr : Fr (· = b) w wr
 len : r.length ≤ 6001
 rest : l.length ≤ 6000
 sum : bad = false → r.length + l.length ≤ 6000
structure P2 (w wr : World) (b : Nat) (v : Value) (rs : List L1) (l : List UInt8) (bad wide : Bool) : Prop where
 own : wr.ownsRow w.heap.size 46 1 v rs.length (rs.map L1.v)
 sub : ∀ y ∈ rs, y.ok wr
 sd : RT wr b l bad wide
 fr : Fr (· = b) w wr
 len : rs.length ≤ 6001
 rest : l.length ≤ 6000
 sum : bad = false → rs.length + l.length ≤ 6000
structure P3 (w wr : World) (b : Nat) (v : Value) (ps : List L2) (l : List UInt8) (bad wide : Bool) : Prop where
 own : wr.ownsRow w.heap.size 45 1 v ps.length (ps.map L2.v)
 sub : ∀ y ∈ ps, y.ok wr
 sd : RT wr b l bad wide
 fr : Fr (· = b) w wr
 len : ps.length ≤ 6001
 rest : l.length ≤ 6000
 sum : bad = false → ps.length + l.length ≤ 6000
theorem P1.start {w : World} {b : Nat} {l : List UInt8} {bad wide : Bool} (h : RT w b l bad wide) (hl : l.length ≤ 6000) : P1 w w b (.slice none 0 0) [] l bad wide := ⟨World.ownsRow_nil _ _ _ _, h, Fr.refl _ _, by simp, hl, fun _ => by simpa using hl⟩
theorem P2.start {w : World} {b : Nat} {l : List UInt8} {bad wide : Bool} (h : RT w b l bad wide) (hl : l.length ≤ 6000) : P2 w w b (.slice none 0 0) [] l bad wide := ⟨World.ownsRow_nil _ _ _ _, by simp, h, Fr.refl _ _, by simp, hl, fun _ => by simpa using hl⟩
theorem P3.start {w : World} {b : Nat} {l : List UInt8} {bad wide : Bool} (h : RT w b l bad wide) (hl : l.length ≤ 6000) : P3 w w b (.slice none 0 0) [] l bad wide := ⟨World.ownsRow_nil _ _ _ _, by simp, h, Fr.refl _ _, by simp, hl, fun _ => by simpa using hl⟩
theorem P1.sd' {w wr w' : World} {b : Nat} {v : Value} {r : Ring} {l l' : List UInt8} {bad wide bad' wide' : Bool} (h : P1 w wr b v r l bad wide) (h4 : RT w' b l' bad' wide') (u : Fr (· = b) wr w') (hl : l'.length ≤ l.length) (hb : bad' = false → bad = false) : P1 w w' b v r l' bad' wide' :=
 ⟨own_fr h.own u fun g hg e => own_row_ne h.own h.sd (by decide) (e ▸ hg), h4, h.fr.trans u, h.len, by have := h.rest; omega, fun e => by have := h.sum (hb e); omega⟩
theorem P2.sd' {w wr w' : World} {b : Nat} {v : Value} {r : List L1} {l l' : List UInt8} {bad wide bad' wide' : Bool} (h : P2 w wr b v r l bad wide) (h4 : RT w' b l' bad' wide') (u : Fr (· = b) wr w') (hl : l'.length ≤ l.length) (hb : bad' = false → bad = false) : P2 w w' b v r l' bad' wide' :=
 ⟨own_fr h.own u fun g hg e => own_row_ne h.own h.sd (by decide) (e ▸ hg), fun y hy => (h.sub y hy).fr u fun b hb' e => (h.sub y hy).row_ne h.sd (by decide) (e ▸ hb'), h4, h.fr.trans u, h.len, by have := h.rest; omega, fun e => by have := h.sum (hb e); omega⟩
theorem P3.sd' {w wr w' : World} {b : Nat} {v : Value} {r : List L2} {l l' : List UInt8} {bad wide bad' wide' : Bool} (h : P3 w wr b v r l bad wide) (h4 : RT w' b l' bad' wide') (u : Fr (· = b) wr w') (hl : l'.length ≤ l.length) (hb : bad' = false → bad = false) : P3 w w' b v r l' bad' wide' :=
 ⟨own_fr h.own u fun g hg e => own_row_ne h.own h.sd (by decide) (e ▸ hg), fun y hy => (h.sub y hy).fr u fun b hb' e => (h.sub y hy).row_ne h.sd (by decide) (by decide) (e ▸ hb'), h4, h.fr.trans u, h.len, by have := h.rest; omega, fun e => by have := h.sum (hb e); omega⟩
theorem P1.step' {w wr w4 w5 : World} {b : Nat} {v : Value} {r : Ring} {l l4 : List UInt8} {bad wide b4 o4 : Bool} {x y : Int} {g cap : Nat} (h : P1 w wr b v r l bad wide) (h6 : r.length ≤ 6000) (h4 : RT w4 b l4 b4 o4) (u : Fr (· = b) wr w4) (hs : b4 = false → r.length + 1 + l4.length ≤ 6000) (hl4 : l4.length ≤ 6000)
  (hown : w5.ownsRow w.heap.size 48 2 (.slice (some ⟨g, 0, none⟩) (r.length + 1) cap) (r.length + 1) (flat r ++ [.int .i64 x, .int .i64 y])) (hg : (w4.alloc (.cells #[.int .i64 x, .int .i64 y] 48)).grownBy w5 v.ownBlock) :
  P1 w w5 b (.slice (some ⟨g, 0, none⟩) (r.length + 1) cap) (r ++ [(x, y)]) l4 b4 o4 := by
 have hb := h.sd
 have o4' : w4.ownsRow w.heap.size 48 2 v r.length (flat r) := own_fr h.own u fun g hg e => own_row_ne h.own hb (by decide) (e ▸ hg)
 have oA := o4'.alloc (.cells #[.int .i64 x, .int .i64 y] 48)
 refine ⟨?_, (h4.alloc _).keep oA (by decide) hg, ((h.fr.trans u).alloc _).grown hg fun k hk => .inr (own_lt h.own hk).1, by simp; omega, hl4, fun e => ?_⟩
 ·rw [flat_append, List.length_append]; exact hown
 ·have := hs e
  simp; omega
theorem P2.step' {w wr w4 w5 : World} {b : Nat} {v : Value} {rs : List L1} {l l4 : List UInt8} {bad wide b4 o4 : Bool} {xa : Option Addr} {xn xc : Nat} {xr : Ring} {g cap : Nat} (h : P2 w wr b v rs l bad wide) (h6 : rs.length ≤ 6000) (h4 : RT w4 b l4 b4 o4) (u : Fr (· = b) wr w4) (hx : L1.ok w4 ⟨.slice xa xn xc, xr⟩) (hs : b4 = false → rs.length + 1 + l4.length ≤ 6000) (hl4 : l4.length ≤ 6000)
  (hown : w5.ownsRow w.heap.size 46 1 (.slice (some ⟨g, 0, none⟩) (rs.length + 1) cap) (rs.length + 1) (rs.map L1.v ++ [.slice xa xn xc])) (hg : (w4.alloc (.cells #[.slice xa xn xc] 46)).grownBy w5 v.ownBlock) :
  P2 w w5 b (.slice (some ⟨g, 0, none⟩) (rs.length + 1) cap) (rs ++ [⟨.slice xa xn xc, xr⟩]) l4 b4 o4 := by
 have hb := h.sd
 have o4' : w4.ownsRow w.heap.size 46 1 v rs.length (rs.map L1.v) := own_fr h.own u fun g hg e => own_row_ne h.own hb (by decide) (e ▸ hg)
 have oA := o4'.alloc (.cells #[.slice xa xn xc] 46)
 have hA := (Up.refl w4).alloc (.cells #[.slice xa xn xc] 46)
 refine ⟨?_, fun y hy => ?_, (h4.alloc _).keep oA (by decide) hg, ((h.fr.trans u).alloc _).grown hg fun k hk => .inr (own_lt h.own hk).1, by simp; omega, hl4, fun e => ?_⟩
 ·rw [List.map_append, List.length_append]; exact hown
 ·rcases List.mem_append.1 hy with hy | hy
  ·exact (((h.sub y hy).fr u fun b hb' e => (h.sub y hy).row_ne hb (by decide) (e ▸ hb')).up hA).grown oA (by decide) hg
  ·simp at hy; subst hy
   exact (hx.up hA).grown oA (by decide) hg
 ·have := hs e
  simp; omega
theorem P3.step' {w wr w4 w5 : World} {b : Nat} {v : Value} {ps : List L2} {l l4 : List UInt8} {bad wide b4 o4 : Bool} {xa : Option Addr} {xn xc : Nat} {xr : List L1} {g cap : Nat} (h : P3 w wr b v ps l bad wide) (h6 : ps.length ≤ 6000) (h4 : RT w4 b l4 b4 o4) (u : Fr (· = b) wr w4) (hx : L2.ok w4 ⟨.slice xa xn xc, xr⟩) (hs : b4 = false → ps.length + 1 + l4.length ≤ 6000) (hl4 : l4.length ≤ 6000)
  (hown : w5.ownsRow w.heap.size 45 1 (.slice (some ⟨g, 0, none⟩) (ps.length + 1) cap) (ps.length + 1) (ps.map L2.v ++ [.slice xa xn xc])) (hg : (w4.alloc (.cells #[.slice xa xn xc] 45)).grownBy w5 v.ownBlock) :
  P3 w w5 b (.slice (some ⟨g, 0, none⟩) (ps.length + 1) cap) (ps ++ [⟨.slice xa xn xc, xr⟩]) l4 b4 o4 := by
 have hb := h.sd
 have o4' : w4.ownsRow w.heap.size 45 1 v ps.length (ps.map L2.v) := own_fr h.own u fun g hg e => own_row_ne h.own hb (by decide) (e ▸ hg)
 have oA := o4'.alloc (.cells #[.slice xa xn xc] 45)
 have hA := (Up.refl w4).alloc (.cells #[.slice xa xn xc] 45)
 refine ⟨?_, fun y hy => ?_, (h4.alloc _).keep oA (by decide) hg, ((h.fr.trans u).alloc _).grown hg fun k hk => .inr (own_lt h.own hk).1, by simp; omega, hl4, fun e => ?_⟩
 ·rw [List.map_append, List.length_append]; exact hown
 ·rcases List.mem_append.1 hy with hy | hy
  ·exact (((h.sub y hy).fr u fun b hb' e => (h.sub y hy).row_ne hb (by decide) (by decide) (e ▸ hb')).up hA).grown oA (by decide) (by decide) hg
  ·simp at hy; subst hy
   exact (hx.up hA).grown oA (by decide) (by decide) hg
 ·have := hs e
  simp; omega
def ChPost (P : Option (Int × List UInt8)) (l : List UInt8) (off : Bool) (rb : Nat) (w : World) (e : Ending) (w' : World) : Prop :=
 ∃ (v : Int) (l' : List UInt8) (bad' : Bool), e = .returned (.int .i64 v) ∧ RT w' rb l' bad' off ∧ Fr (· = rb) w w' ∧ P = (if bad' = true then none else some (v, l')) ∧ l'.length ≤ l.length
theorem Js.code_step {k i : Nat} {s : Int} {t : List UInt8} (hi : i < 4) : Js.code (4 - i) s t = (Js.hexd (Js.fst t)).bind fun d => Js.code (4 - (i + 1)) (s * 16 + d) (t.drop 1) := by
 rw [show 4 - i = (4 - (i + 1)) + 1 by omega]
 simp only [Js.code, Js.hexd_fst]
set_option maxRecDepth 100000 in
set_option maxHeartbeats 4000000 in
theorem code_any (l : List UInt8) (off : Bool) (rb : Nat) (w : World) (hr : RT w rb l false off) (hl : l.length ≤ 6000) :
    Calls Tryz.prog 158 #[.pointer (some ⟨rb, 0, none⟩)] w (ChPost (Js.code 4 0 l) l off rb w) := by
  have HR := hide hr
  clear hr
  go_enter Tryz.func158, Tryz.ntmps158
  go_wp2
  go_loopw [3, 4] (fun sv iv wr => ∃ (i : Nat) (s : Int) (t : List UInt8), i ≤ 4 ∧ sv = .int .i64 s ∧ iv = .int .i64 i ∧ (0 ≤ s ∧ (s < 1 ∨ 0 < i) ∧ (s < 16 ∨ 1 < i) ∧ (s < 256 ∨ 2 < i) ∧ (s < 4096 ∨ 3 < i) ∧ s < 65536) ∧ Hid (RT wr rb t false off) ∧ Hid (Fr (· = rb) w wr) ∧ Hid (Js.code 4 0 l = Js.code (4 - i) s t) ∧ t.length ≤ l.length) (fun _ iv _ => 4 - (intOf iv).toNat)
  case atStart => exact ⟨0, 0, l, by omega, rfl, rfl, by omega, HR, Fr.refl _ _, rfl, Nat.le_refl _⟩
  case round =>
    obtain ⟨wo, hw⟩ : ∃ x, x = wr := ⟨_, rfl⟩
    subst hw
    obtain ⟨i, s, t, hi, rfl, rfl, hs, HI, HF, HT, htl⟩ := hrel
    by_cases h4 : i < 4
    · have HS := HT
      unfold Hid at HS
      rw [Js.code_step (k := 0) h4] at HS
      replace HS := hide HS
      obtain ⟨c0, c1, c2, f0, f1, f2⟩ := HI.out.facts
      obtain ⟨x, hx⟩ : ∃ x, x = Js.fst t := ⟨_, rfl⟩
      have hx0 : 0 ≤ x ∧ x ≤ 255 := by rw [hx]; exact Js.fst_nn t
      have HFI := hide (first_any t wo (by omega))
      rw [← hx] at HFI HS
      have HDI := hide (digitOf_any x hx0.1 hx0.2 wo)
      obtain ⟨e0, -, e2, -, -, -⟩ := bs_tells t
      have HXX := hide hx
      clear hx
      cases hd : Js.hexd x with
      | none =>
        rw [hd] at HDI HS
        have HDI2 : Hid (Calls Tryz.prog 162 #[.int .u8 x] wo fun e w' => e = .returned (.int .i64 (-1)) ∧ w' = wo) := HDI.out
        clear c2 f0 f2 hd HDI
        go_wp2_with (first
          | (go_at_call 119; refine HFI.out.mono ?_; rintro e w1 ⟨rfl, hw⟩; replace hw := hw.symm; subst hw)
          | (go_at_call 162; refine HDI2.out.mono ?_; rintro e w1 ⟨rfl, hw⟩; replace hw := hw.symm; subst hw))
        go_ret
        exact ⟨-1, t, true, rfl, HI.out.bad true, HF.out.setCell (p := ⟨rb, 1, none⟩) rfl _, by rw [HS.out]; rfl, htl⟩
      | some d =>
        have hd0 := Js.hexd_le hd
        have ht1 : 1 ≤ t.length := by
          cases t with
          | nil => rw [HXX.out] at hd; simp [Js.fst, Js.hexd] at hd
          | cons a r => simp
        rw [hd] at HDI HS
        have hdn : (d == -1) = false := beq_eq_false_iff_ne.2 (by omega)
        have HDI2 : Hid (Calls Tryz.prog 162 #[.int .u8 x] wo fun e w' => e = .returned (.int .i64 d) ∧ w' = wo) := HDI.out
        clear c1 c2 f1 f2 hd HDI
        go_wp2_with (first
          | (go_at_call 119; refine HFI.out.mono ?_; rintro e w1 ⟨rfl, hw⟩; replace hw := hw.symm; subst hw)
          | (go_at_call 162; refine HDI2.out.mono ?_; rintro e w1 ⟨rfl, hw⟩; replace hw := hw.symm; subst hw))
        go_roundw
        case rel =>
          refine ⟨i + 1, s * 16 + d, t.drop 1, by omega, by go_num, by go_num, by omega, ?_, HF.out.setCell (p := ⟨rb, 0, none⟩) rfl _, HS.out, by simp; omega⟩
          show RT _ _ _ _ _
          simpa using HI.out.rest (t.drop 1)
        case measure => simp [intOf]; omega
    · obtain rfl : i = 4 := by omega
      go_wp2
      go_ret
      exact ⟨s, t, false, rfl, HI.out, HF.out, by rw [HT.out]; rfl, htl⟩
set_option maxRecDepth 100000 in
set_option maxHeartbeats 4000000 in
theorem escape_any (l : List UInt8) (off : Bool) (rb : Nat) (w : World) (hr : RT w rb l false off) (hl : l.length ≤ 6000) :
    Calls Tryz.prog 153 #[.pointer (some ⟨rb, 0, none⟩)] w (ChPost (Js.esc l) l off rb w) := by
  have HW := hide (word_any [117] l false off rb w hr hl (by simp))
  have HR := hide hr
  clear hr
  have hal := Tx.aft_le [117] l
  cases hp : Tx.pre [117] l with
  | true =>
    have HA : Hid (Tx.aft [117] l = l.drop 1) := Tx.aft_t hp
    have HE : Hid (Js.esc l = Js.code 4 0 (l.drop 1)) := by
      show _ = _
      unfold Js.esc
      rw [if_pos (show Tx.at_ l 0 = 117 from (Js.pre1 117 l).1 hp)]
    rw [hp, HA.out] at HW
    have hdl : (l.drop 1).length ≤ 6000 := by rw [List.length_drop]; omega
    clear hp hal
    go_enter Tryz.func153, Tryz.ntmps153
    go_wp2_with fail
    refine HW.out.mono ?_
    rintro e w1 ⟨rfl, h1, u1⟩
    replace h1 := hide h1
    replace u1 := hide u1
    go_wp2_with fail
    refine (code_any (l.drop 1) off rb _ h1.out hdl).mono ?_
    rintro e w2 ⟨v, l2, b2, rfl, h2, u2, p2, hl2⟩
    replace h2 := hide h2
    replace u2 := hide u2
    replace p2 := hide p2
    go_wp2
    go_ret
    exact ⟨v, l2, b2, rfl, h2.out, u1.out.trans u2.out, HE.out.trans p2.out, by rw [List.length_drop] at hl2; omega⟩
  | false =>
    have HA : Hid (Tx.aft [117] l = l) := Tx.aft_f hp
    have HE : Hid (Js.esc l = (Js.mean (Js.fst l)).map fun v => (v, l.drop 1)) := by
      show _ = _
      unfold Js.esc
      rw [if_neg (fun h => by rw [(Js.pre1 117 l).2 h] at hp; cases hp), Js.mean_fst]
    rw [hp, HA.out] at HW
    obtain ⟨x, hx⟩ : ∃ x, x = Js.fst l := ⟨_, rfl⟩
    have HFI := hide (fun w => first_any l w hl)
    have HMI := hide (fun w => meaning_any x w)
    rw [← hx] at HFI HE
    obtain ⟨e0, -, e2, -, -, -⟩ := bs_tells l
    have HXX := hide hx
    clear hp hal hx
    cases hd : Js.mean x with
    | none =>
      rw [hd] at HMI HE
      have HM2 : Hid (∀ w, Calls Tryz.prog 159 #[.int .u8 x] w fun e w' => e = .returned (.int .i64 (-1)) ∧ w' = w) := HMI.out
      clear HMI hd
      go_enter Tryz.func153, Tryz.ntmps153
      go_wp2_with fail
      refine HW.out.mono ?_
      rintro e w1 ⟨rfl, h1, u1⟩
      obtain ⟨c0, c1, c2, f0, f1, f2⟩ := h1.facts
      replace h1 := hide h1
      replace u1 := hide u1
      clear c2 f0 f2
      go_wp2_with (first
          | (go_at_call 119; refine (HFI.out _).mono ?_; rintro e w1 ⟨rfl, hw⟩; replace hw := hw.symm; subst hw)
          | (go_at_call 159; refine (HM2.out _).mono ?_; rintro e w1 ⟨rfl, hw⟩; replace hw := hw.symm; subst hw))
      go_ret
      exact ⟨-1, l, true, rfl, h1.out.bad true, u1.out.setCell (p := ⟨rb, 1, none⟩) rfl _, by rw [HE.out]; rfl, Nat.le_refl _⟩
    | some d =>
      rw [hd] at HMI HE
      have HM2 : Hid (∀ w, Calls Tryz.prog 159 #[.int .u8 x] w fun e w' => e = .returned (.int .i64 d) ∧ w' = w) := HMI.out
      have hd0 := Js.mean_le hd
      have hdn : (d == -1) = false := beq_eq_false_iff_ne.2 (by omega)
      have ht1 : 1 ≤ l.length := by
        cases l with
        | nil => rw [HXX.out] at hd; simp [Js.fst, Js.mean] at hd
        | cons a r => simp
      clear HMI hd
      go_enter Tryz.func153, Tryz.ntmps153
      go_wp2_with fail
      refine HW.out.mono ?_
      rintro e w1 ⟨rfl, h1, u1⟩
      obtain ⟨c0, c1, c2, f0, f1, f2⟩ := h1.facts
      replace h1 := hide h1
      replace u1 := hide u1
      clear c1 c2 f1 f2
      go_wp2_with (first
          | (go_at_call 119; refine (HFI.out _).mono ?_; rintro e w1 ⟨rfl, hw⟩; replace hw := hw.symm; subst hw)
          | (go_at_call 159; refine (HM2.out _).mono ?_; rintro e w1 ⟨rfl, hw⟩; replace hw := hw.symm; subst hw))
      go_ret
      exact ⟨d, l.drop 1, false, rfl, by simpa using h1.out.rest (l.drop 1), u1.out.setCell (p := ⟨rb, 0, none⟩) rfl _, by rw [HE.out]; rfl, by simp⟩
set_option maxRecDepth 100000 in
set_option maxHeartbeats 4000000 in
theorem character_any (l : List UInt8) (off : Bool) (rb : Nat) (w : World) (hr : RT w rb l false off) (hl : l.length ≤ 6000) :
    Calls Tryz.prog 143 #[.pointer (some ⟨rb, 0, none⟩)] w (ChPost (Js.chr l) l off rb w) := by
  have HW := hide (word_any [92] l false off rb w hr hl (by simp))
  have HR := hide hr
  clear hr
  have hal := Tx.aft_le [92] l
  cases hp : Tx.pre [92] l with
  | true =>
    have HA : Hid (Tx.aft [92] l = l.drop 1) := Tx.aft_t hp
    have HE : Hid (Js.chr l = Js.esc (l.drop 1)) := by
      show _ = _
      unfold Js.chr
      rw [if_pos (show Tx.at_ l 0 = 92 from (Js.pre1 92 l).1 hp)]
    rw [hp, HA.out] at HW
    have hdl : (l.drop 1).length ≤ 6000 := by rw [List.length_drop]; omega
    clear hp hal
    go_enter Tryz.func143, Tryz.ntmps143
    go_wp2_with fail
    refine HW.out.mono ?_
    rintro e w1 ⟨rfl, h1, u1⟩
    replace h1 := hide h1
    replace u1 := hide u1
    go_wp2_with fail
    refine (escape_any (l.drop 1) off rb _ h1.out hdl).mono ?_
    rintro e w2 ⟨v, l2, b2, rfl, h2, u2, p2, hl2⟩
    replace h2 := hide h2
    replace u2 := hide u2
    replace p2 := hide p2
    go_wp2
    go_ret
    exact ⟨v, l2, b2, rfl, h2.out, u1.out.trans u2.out, HE.out.trans p2.out, by rw [List.length_drop] at hl2; omega⟩
  | false =>
    have HA : Hid (Tx.aft [92] l = l) := Tx.aft_f hp
    rw [hp, HA.out] at HW
    obtain ⟨x, hx⟩ : ∃ x, x = Js.fst l := ⟨_, rfl⟩
    have hx0 : 0 ≤ x ∧ x ≤ 255 := by rw [hx]; exact Js.fst_nn l
    have HE : Hid (Js.chr l = if 32 ≤ x ∧ x ≤ 126 then some (x, l.drop 1) else none) := by
      show _ = _
      unfold Js.chr
      rw [if_neg (fun h => by rw [(Js.pre1 92 l).2 h] at hp; cases hp), hx]
      rcases Js.fst_at l with h1 | ⟨h1, -, h2⟩
      · rw [h1]
      · rw [h1, h2]; rfl
    have HFI := hide (fun w => first_any l w hl)
    rw [← hx] at HFI
    obtain ⟨e0, -, e2, -, -, -⟩ := bs_tells l
    have HXX := hide hx
    clear hp hal hx
    by_cases hd : 32 ≤ x ∧ x ≤ 126
    · rw [if_pos hd] at HE
      have g1 : ¬ x < 32 := by omega
      have g2 : ¬ 126 < x := by omega
      have ht1 : 1 ≤ l.length := by
        cases l with
        | nil => rw [HXX.out] at hd; simp [Js.fst] at hd
        | cons a r => simp
      clear hd
      go_enter Tryz.func143, Tryz.ntmps143
      go_wp2_with fail
      refine HW.out.mono ?_
      rintro e w1 ⟨rfl, h1, u1⟩
      obtain ⟨c0, c1, c2, f0, f1, f2⟩ := h1.facts
      replace h1 := hide h1
      replace u1 := hide u1
      clear c1 c2 f1 f2
      go_wp2_with (first
          | (go_at_call 119; refine (HFI.out _).mono ?_; rintro e w1 ⟨rfl, hw⟩; replace hw := hw.symm; subst hw))
      go_ret
      exact ⟨x, l.drop 1, false, by go_num, by simpa using h1.out.rest (l.drop 1), u1.out.setCell (p := ⟨rb, 0, none⟩) rfl _, by rw [HE.out]; rfl, by simp⟩
    · rw [if_neg hd] at HE
      by_cases g1 : x < 32
      · clear hd
        go_enter Tryz.func143, Tryz.ntmps143
        go_wp2_with fail
        refine HW.out.mono ?_
        rintro e w1 ⟨rfl, h1, u1⟩
        obtain ⟨c0, c1, c2, f0, f1, f2⟩ := h1.facts
        replace h1 := hide h1
        replace u1 := hide u1
        clear c2 f0 f2
        go_wp2_with (first
          | (go_at_call 119; refine (HFI.out _).mono ?_; rintro e w1 ⟨rfl, hw⟩; replace hw := hw.symm; subst hw))
        go_ret
        exact ⟨-1, l, true, rfl, h1.out.bad true, u1.out.setCell (p := ⟨rb, 1, none⟩) rfl _, by rw [HE.out]; rfl, Nat.le_refl _⟩
      · have g2 : 126 < x := by omega
        clear hd
        go_enter Tryz.func143, Tryz.ntmps143
        go_wp2_with fail
        refine HW.out.mono ?_
        rintro e w1 ⟨rfl, h1, u1⟩
        obtain ⟨c0, c1, c2, f0, f1, f2⟩ := h1.facts
        replace h1 := hide h1
        replace u1 := hide u1
        clear c2 f0 f2
        go_wp2_with (first
          | (go_at_call 119; refine (HFI.out _).mono ?_; rintro e w1 ⟨rfl, hw⟩; replace hw := hw.symm; subst hw))
        go_ret
        exact ⟨-1, l, true, rfl, h1.out.bad true, u1.out.setCell (p := ⟨rb, 1, none⟩) rfl _, by rw [HE.out]; rfl, Nat.le_refl _⟩
def Js.ints (c : List Int) : List Value := c.map fun n => .int .i64 n
theorem Js.ints_snoc (c : List Int) (n : Int) : Js.ints (c ++ [n]) = Js.ints c ++ [.int .i64 n] := by simp [Js.ints]
def rtM (w : World) (b : Nat) : Nat := match w.cell? ⟨b, 0, none⟩, w.cell? ⟨b, 1, none⟩ with
 | some (.string s), some (.bool bad) => 2 * s.size + (if bad then 0 else 1)
 | _, _ => 0
theorem rtM_of {w : World} {b : Nat} {l : List UInt8} {bad off : Bool} (h : RT w b l bad off) : rtM w b = 2 * l.length + (if bad then 0 else 1) := by
 unfold rtM
 rw [h.c0, h.c1]
 simp only [bs_size]
structure PC (w wr : World) (b : Nat) (v : Value) (c : List Int) (l : List UInt8) (bad off : Bool) : Prop where
 own : wr.ownsRow w.heap.size 3 1 v c.length (Js.ints c)
 sd : RT wr b l bad off
 fr : Fr (· = b) w wr
 rest : l.length ≤ 6000
 sum : bad = false → c.length + l.length ≤ 6000
theorem PC.step {w wr w4 w5 : World} {b : Nat} {v : Value} {c : List Int} {l l4 : List UInt8} {off b4 o4 : Bool} {x : Int} {g cap : Nat} (h : PC w wr b v c l false off) (h4 : RT w4 b l4 b4 o4) (u : Fr (· = b) wr w4) (hs : b4 = false → l4.length + 1 ≤ l.length) (hl4 : l4.length ≤ 6000)
  (hown : w5.ownsRow w.heap.size 3 1 (.slice (some ⟨g, 0, none⟩) (c.length + 1) cap) (c.length + 1) (Js.ints c ++ [.int .i64 x])) (hg : (w4.alloc (.cells #[.int .i64 x] 3)).grownBy w5 v.ownBlock) :
  PC w w5 b (.slice (some ⟨g, 0, none⟩) (c.length + 1) cap) (c ++ [x]) l4 b4 o4 := by
 have hb := h.sd
 have o4' : w4.ownsRow w.heap.size 3 1 v c.length (Js.ints c) := own_fr h.own u fun g hg e => own_row_ne h.own hb (by decide) (e ▸ hg)
 have oA := o4'.alloc (.cells #[.int .i64 x] 3)
 refine ⟨?_, (h4.alloc _).keep oA (by decide) hg, ((h.fr.trans u).alloc _).grown hg fun k hk => .inr (own_lt h.own hk).1, hl4, fun e => ?_⟩
 ·rw [Js.ints_snoc, List.length_append]; exact hown
 ·have := hs e
  have := h.sum rfl
  simp; omega
def CsPost (l : List UInt8) (bad off : Bool) (rb : Nat) (w : World) (e : Ending) (w' : World) : Prop :=
 ∃ (v : Value) (c : List Int) (l' : List UInt8) (bad' : Bool), e = .returned v ∧ w'.ownsRow w.heap.size 3 1 v c.length (Js.ints c) ∧ RT w' rb l' bad' off ∧ Fr (· = rb) w w' ∧ (if bad = true then none else Js.str (Tx.bare l)) = (if bad' = true then none else some (c, l')) ∧ l'.length ≤ l.length ∧ c.length ≤ 6000
theorem Js.str_begin (l : List UInt8) (bad : Bool) : (if bad = true then none else Js.str (Tx.bare l)) = if (bad || !Tx.pre [34] (Tx.bare l)) = true then none else Js.pre0 [] (Js.body ((Tx.bare l).length + 1) (Tx.aft [34] (Tx.bare l))) := by
 cases bad
 ·cases hp : Tx.pre [34] (Tx.bare l)
  ·simp only [Bool.false_eq_true, if_false, Bool.false_or, Bool.not_false, if_true]
   unfold Js.str
   rw [if_neg (fun h => by rw [(Js.pre1 34 _).2 h] at hp; cases hp)]
  ·simp only [Bool.false_eq_true, if_false, Bool.false_or, Bool.not_true]
   unfold Js.str
   rw [if_pos (show Tx.at_ (Tx.bare l) 0 = 34 from (Js.pre1 34 _).1 hp), Js.pre0_nil, Tx.aft_t hp]
   rfl
 ·simp
theorem Js.body_end {T : Option (List Int × List UInt8)} {c : List Int} {k : Nat} {l : List UInt8} (hT : T = Js.pre0 c (Js.body (k + 1) l)) (h : Tx.pre [34] l = true) : T = some (c, Tx.aft [34] l) := by
 rw [hT, Js.body, if_pos (show Tx.at_ l 0 = 34 from (Js.pre1 34 _).1 h), Tx.aft_t h]
 simp [Js.pre0]
theorem Js.body_go {T : Option (List Int × List UInt8)} {c : List Int} {k : Nat} {l l' : List UInt8} {v : Int} {b : Bool} (hT : T = Js.pre0 c (Js.body (k + 1) l)) (h : Tx.pre [34] l = false) (hc : Js.chr l = if b = true then none else some (v, l')) : T = if b = true then none else Js.pre0 (c ++ [v]) (Js.body k l') := by
 rw [hT, Js.body, if_neg (fun e => by rw [(Js.pre1 34 _).2 e] at h; cases h), hc]
 cases b
 ·simp only [Bool.false_eq_true, if_false, Option.bind_some, Js.pre0, Option.map_map]
  congr 1
  funext y
  simp
 ·simp [Js.pre0]
set_option maxRecDepth 100000 in
set_option maxHeartbeats 4000000 in
theorem characters_any (l : List UInt8) (bad0 off : Bool) (rb : Nat) (w : World) (hr : RT w rb l bad0 off) (hl : l.length ≤ 6000) :
    Calls Tryz.prog 117 #[.pointer (some ⟨rb, 0, none⟩)] w (CsPost l bad0 off rb w) := by
  have HR := hide hr
  clear hr
  go_enter Tryz.func117, Tryz.ntmps117
  go_wp2_with fail
  refine (need_any [34] l bad0 off rb _ HR.out hl (by simp)).mono ?_
  rintro e w1 ⟨rfl, h1, u1⟩
  have HT := hide (Js.str_begin l bad0)
  have hl1b : (Tx.aft [34] (Tx.bare l)).length ≤ (Tx.bare l).length := Tx.aft_le _ _
  have hlb := Tx.bare_le l
  obtain ⟨l1, hl1e⟩ : ∃ l1, l1 = Tx.aft [34] (Tx.bare l) := ⟨_, rfl⟩
  obtain ⟨b1, hb1e⟩ : ∃ b1, b1 = (bad0 || !Tx.pre [34] (Tx.bare l)) := ⟨_, rfl⟩
  rw [← hl1e, ← hb1e] at h1 HT
  rw [← hl1e] at hl1b
  rw [← hb1e]
  have hsz := hide u1.size
  have HQ : Hid (PC w1 w1 rb (.slice none 0 0) [] l1 b1 off) := ⟨World.ownsRow_nil _ _ _ _, h1, Fr.refl _ _, by omega, fun _ => by simp; omega⟩
  have HF1 := hide u1
  obtain ⟨T, hTe⟩ : ∃ T, T = (if bad0 = true then none else Js.str (Tx.bare l)) := ⟨_, rfl⟩
  rw [← hTe] at HT
  have HTE := hide hTe
  clear h1 u1 hl1e hb1e hTe
  go_wp2_with fail
  go_loopw [3] (fun v wr => ∃ (k : Nat) (c : List Int) (l' : List UInt8) (bad : Bool) (u : Value), u = v ∧ Hid (PC w1 wr rb u c l' bad off) ∧ Hid (T = if bad = true then none else Js.pre0 c (Js.body (k + 1) l')) ∧ (bad = false → l'.length ≤ k) ∧ l'.length ≤ l.length) (fun _ wr => rtM wr rb)
  case atStart =>
    exact ⟨(Tx.bare l).length, [], l1, b1, _, rfl, HQ, HT.out, fun _ => hl1b, by omega⟩
  case round =>
    obtain ⟨wo, hw⟩ : ∃ x, x = wr := ⟨_, rfl⟩
    subst hw
    obtain ⟨k, c, l2, bad, v, rfl, HI, HT2, hk, hl2l⟩ := hrel
    have hl2 := HI.out.rest
    obtain ⟨va, vn, vc, rfl⟩ : ∃ a n c, v = .slice a n c := own_shape HI.out.own
    obtain rfl : vn = c.length := by obtain ⟨a, c, e⟩ := own_len HI.out.own; cases e; rfl
    have c1 := HI.out.sd.c1
    cases bad
    · have hs6 := HI.out.sum rfl
      have hk' := hk rfl
      clear hk
      replace HT2 : Hid (T = Js.pre0 c (Js.body (k + 1) l2)) := HT2.out
      have HW := hide (word_any [34] l2 false off rb _ HI.out.sd hl2 (by simp))
      cases hp : Tx.pre [34] l2 with
      | true =>
        rw [hp] at HW
        have HE := hide (Js.body_end HT2.out hp)
        clear hp HT2
        go_wp2_with fail
        refine HW.out.mono ?_
        rintro e w2 ⟨rfl, h2, u2⟩
        have HO : Hid (w2.ownsRow w1.heap.size 3 1 (.slice va c.length vc) c.length (Js.ints c)) := own_fr HI.out.own u2 fun g hg e => own_row_ne HI.out.own HI.out.sd (by decide) (e ▸ hg)
        replace h2 := hide h2
        replace u2 := hide u2
        go_wp2
        go_ret
        exact ⟨_, c, _, false, rfl, own_base HO.out hsz.out, h2.out, (HF1.out.trans HI.out.fr).trans u2.out, by rw [← HTE.out, HE.out]; rfl, Nat.le_trans (Tx.aft_le _ _) hl2l, by omega⟩
      | false =>
        rw [hp, Tx.aft_f hp] at HW
        have HG := hide (fun v l' b => Js.body_go (v := v) (l' := l') (b := b) HT2.out hp)
        have HCL := hide (fun x t (h : Js.chr l2 = some (x, t)) => Js.chr_lt h)
        clear hp HT2
        go_wp2_with fail
        refine HW.out.mono ?_
        rintro e w2 ⟨rfl, h2, u2⟩
        replace h2 := hide h2
        replace u2 := hide u2
        go_wp2_with fail
        refine (character_any l2 off rb _ h2.out hl2).mono ?_
        rintro e w4 ⟨x, l4, b4, rfl, h4, u4, p4, hl4⟩
        have HF : Hid (Fr (· = rb) wo w4) := u2.out.trans u4
        have HO : Hid (w4.ownsRow w1.heap.size 3 1 (.slice va c.length vc) c.length (Js.ints c)) := own_fr HI.out.own HF.out fun g hg e => own_row_ne HI.out.own HI.out.sd (by decide) (e ▸ hg)
        have HOA := hide (HO.out.alloc (.cells #[.int .i64 x] 3))
        replace h4 := hide h4
        have HP4 := hide p4
        have hrb : Hid (c.length ≤ 1073741824) := by show _ ≤ _; omega
        have hsz4 := hide (HI.out.fr.trans HF.out).size
        have HLT : Hid (b4 = false → l4.length + 1 ≤ l2.length) := fun e => by
          have h7 := HP4.out
          rw [e] at h7
          exact HCL.out _ _ h7
        have hl46 : l4.length ≤ 6000 := by omega
        clear u4 p4 h2 u2
        go_wp2_with (at_builtin; refine wpList_app el_ints rfl (.tmp 19) (.tmp 21) rfl w1.heap.size _ _ _ (by rfl) HOA.out w4.heap.size [.int .i64 x] (by rfl) rfl (heap_alloc_new w4 _) (by intro u hu; simp at hu; subst hu; rfl) hrb.out (by simp; have := hsz4.out; omega) ?_; intro g cap w5 hown5 hg5 hat5 hlt5; have hq5 := hide (HI.out.step h4.out HF.out HLT.out hl46 hown5 hg5); clear hat5 hlt5 hown5 hg5)
        go_roundw
        case rel =>
          refine ⟨k - 1, c ++ [x], l4, b4, _, rfl, hq5, ?_, fun e => by have := HLT.out e; omega, by omega⟩
          have a1 := HG.out x l4 b4 HP4.out
          show _ = _
          rw [a1]
          cases b4
          · have := HLT.out rfl
            rw [show k - 1 + 1 = k by omega]
          · rfl
        case measure =>
          rw [rtM_of hq5.out.sd, rtM_of HI.out.sd]
          cases b4
          · have := HLT.out rfl
            simp; omega
          · simp; omega
    · have HE : Hid (T = none) := HT2.out
      go_wp2
      go_ret
      exact ⟨_, [], l2, true, rfl, World.ownsRow_nil _ _ _ _, HI.out.sd, HF1.out.trans HI.out.fr, by rw [← HTE.out, HE.out]; rfl, hl2l, by simp⟩
def BeginPost (b e : UInt8) (l : List UInt8) (bad off : Bool) (rb : Nat) (w : World) (x : Ending) (w' : World) : Prop :=
 ∃ (l' : List UInt8) (bad' more : Bool), x = .returned (.bool more) ∧ RT w' rb l' bad' off ∧ Fr (· = rb) w w' ∧ l'.length ≤ l.length ∧
  (more = true → bad' = false ∧ l'.length ≤ (Tx.bare l).length ∧ (∀ (α : Type) (f : List UInt8 → Bool → Bn.Res α) (o : Bool), (if bad = true then none else Js.list b e f l o) = Bn.pre [] (Js.items e f ((Tx.bare l).length + 1) l' o)) ∧ (∀ (α : Type) (f : List UInt8 → Option (α × List UInt8)), (if bad = true then none else Js.list0 b e f l) = Js.pre0 [] (Js.items0 e f ((Tx.bare l).length + 1) l'))) ∧
  (more = false → (∀ (α : Type) (f : List UInt8 → Bool → Bn.Res α) (o : Bool), (if bad = true then none else Js.list b e f l o) = if bad' = true then none else some ([], l', o)) ∧ (∀ (α : Type) (f : List UInt8 → Option (α × List UInt8)), (if bad = true then none else Js.list0 b e f l) = if bad' = true then none else some ([], l')))
set_option maxHeartbeats 2000000 in
theorem begin_any (b e : UInt8) (l : List UInt8) (bad off : Bool) (rb : Nat) (w : World) (hr : RT w rb l bad off) (hl : l.length ≤ 6000) :
    Calls Tryz.prog 77 #[.pointer (some ⟨rb, 0, none⟩), .string (bs [b]), .string (bs [e])] w (BeginPost b e l bad off rb w) := by
  have HN := hide (need_any [b] l bad off rb w hr hl (by simp))
  unfold NeedPost at HN
  have hle : (Tx.aft [b] (Tx.bare l)).length ≤ l.length := Nat.le_trans (Tx.aft_le _ _) (Tx.bare_le l)
  have hlb : (Tx.aft [b] (Tx.bare l)).length ≤ (Tx.bare l).length := Tx.aft_le _ _
  obtain ⟨B, hB⟩ : ∃ B, B = (bad || !Tx.pre [b] (Tx.bare l)) := ⟨_, rfl⟩
  rw [← hB] at HN
  have HBB := hide hB
  clear hB hr
  cases B
  · have hb0 : bad = false ∧ Tx.pre [b] (Tx.bare l) = true := by
      have h := HBB.out
      cases bad
      · exact ⟨rfl, by simpa using h⟩
      · simp at h
    obtain ⟨rfl, hp⟩ := hb0
    have HP := hide hp
    obtain ⟨l1, hl1⟩ : ∃ l1, l1 = Tx.aft [b] (Tx.bare l) := ⟨_, rfl⟩
    have HL1 := hide hl1
    rw [← hl1] at HN hle hlb
    have hb1 := Tx.bare_le l1
    clear hl1 hp
    go_enter Tryz.func77, Tryz.ntmps77
    go_wp2_with fail
    refine HN.out.mono ?_
    rintro x w1 ⟨rfl, h1, u1⟩
    have HM := hide (mark_any [e] l1 false off rb w1 h1 (by omega) (by simp))
    replace u1 := hide u1
    clear h1
    cases hq : Tx.pre [e] (Tx.bare l1) with
    | true =>
      rw [hq] at HM
      have HQ := hide hq
      clear hq
      go_wp2_with fail
      refine HM.out.mono ?_
      rintro x w2 ⟨rfl, h2, u2⟩
      replace h2 := hide h2
      replace u2 := hide u2
      go_wp2
      go_ret
      refine ⟨_, false, false, rfl, h2.out, u1.out.trans u2.out, Nat.le_trans (Nat.le_trans (Tx.aft_le _ _) hb1) hle, fun h => by simp at h, fun _ => ⟨fun α f o => ?_, fun α f => ?_⟩⟩
      · simp [Js.list, HP.out, ← HL1.out, HQ.out]
      · simp [Js.list0, HP.out, ← HL1.out, HQ.out]
    | false =>
      rw [hq, Tx.aft_f hq] at HM
      have HQ := hide hq
      clear hq
      go_wp2_with fail
      refine HM.out.mono ?_
      rintro x w2 ⟨rfl, h2, u2⟩
      replace h2 := hide h2
      replace u2 := hide u2
      go_wp2
      go_ret
      refine ⟨_, false, true, rfl, h2.out, u1.out.trans u2.out, Nat.le_trans hb1 hle, fun _ => ⟨rfl, Nat.le_trans hb1 hlb, fun α f o => ?_, fun α f => ?_⟩, fun h => by simp at h⟩
      · simp [Js.list, HP.out, ← HL1.out, HQ.out, Bn.pre_nil]
      · simp [Js.list0, HP.out, ← HL1.out, HQ.out, Js.pre0_nil]
  · have HBad : Hid (bad = true ∨ Tx.pre [b] (Tx.bare l) = false) := by
      have h := HBB.out
      cases bad
      · exact .inr (by simpa using h)
      · exact .inl rfl
    go_enter Tryz.func77, Tryz.ntmps77
    go_wp2_with fail
    refine HN.out.mono ?_
    rintro x w1 ⟨rfl, h1, u1⟩
    replace h1 := hide h1
    replace u1 := hide u1
    go_wp2
    go_ret
    refine ⟨_, true, false, rfl, h1.out, u1.out, hle, fun h => by simp at h, fun _ => ⟨fun α f o => ?_, fun α f => ?_⟩⟩
    · rcases HBad.out with h | h <;> simp [Js.list, h]
    · rcases HBad.out with h | h <;> simp [Js.list0, h]
def NextPostE (e : UInt8) (l : List UInt8) (bad off : Bool) (rb : Nat) (w : World) (x : Ending) (w' : World) : Prop :=
 ∃ (l' : List UInt8) (bad' : Bool), x = .returned (.bool (!bad && Tx.pre [44] (Tx.bare l))) ∧ RT w' rb l' bad' off ∧ Fr (· = rb) w w' ∧ l'.length ≤ l.length ∧
  ((!bad && Tx.pre [44] (Tx.bare l)) = true → bad' = false ∧ l' = Tx.aft [44] (Tx.bare l)) ∧ ((!bad && Tx.pre [44] (Tx.bare l)) = false → bad' = (bad || !Tx.pre [e] (Tx.bare l)) ∧ (bad' = false → l' = Tx.aft [e] (Tx.bare l)))
set_option maxHeartbeats 1000000 in
theorem nextE_any (e : UInt8) (l : List UInt8) (bad off : Bool) (rb : Nat) (w : World) (hr : RT w rb l bad off) (hl : l.length ≤ 6000) :
  Calls Tryz.prog 78 #[.pointer (some ⟨rb, 0, none⟩), .string (bs [e])] w (NextPostE e l bad off rb w) := by
 obtain ⟨c0, c1, c2, f0, f1, f2⟩ := hr.facts
 have HR := hide hr
 clear hr c0 c2 f0 f1 f2
 cases bad
 ·have hle := Tx.bare_le l
  obtain ⟨P, hP⟩ : ∃ P, P = Tx.pre [44] (Tx.bare l) := ⟨_, rfl⟩
  have HPP := hide hP
  have HM := hide (mark_any [44] l false off rb w HR.out hl (by simp))
  rw [← hP] at HM
  clear hP
  cases P
  ·have hbl : (Tx.bare l).length ≤ 6000 := by omega
   have HA : Hid (Tx.aft [44] (Tx.bare l) = Tx.bare l) := Tx.aft_f HPP.out.symm
   have HB := hide (Tx.bare_bare l)
   go_enter Tryz.func78, Tryz.ntmps78
   go_wp2_with fail
   refine HM.out.mono ?_
   rintro e w1 ⟨rfl, h1, u1⟩
   rw [HA.out] at h1
   replace h1 := hide h1
   replace u1 := hide u1
   go_wp2_with fail
   refine (need_any [e] (Tx.bare l) false off rb _ h1.out hbl (by simp)).mono ?_
   rintro e w2 ⟨rfl, h2, u2⟩
   rw [HB.out] at h2
   replace h2 := hide h2
   replace u2 := hide u2
   go_wp2
   go_ret
   unfold NextPostE
   rw [← HPP.out]
   exact ⟨_, _, by simp, h2.out, u1.out.trans u2.out, Nat.le_trans (Tx.aft_le _ _) hle, by simp, fun _ => ⟨rfl, fun _ => rfl⟩⟩
  ·go_enter Tryz.func78, Tryz.ntmps78
   go_wp2_with fail
   refine HM.out.mono ?_
   rintro e w1 ⟨rfl, h1, u1⟩
   replace h1 := hide h1
   replace u1 := hide u1
   go_wp2
   go_ret
   unfold NextPostE
   rw [← HPP.out]
   exact ⟨_, _, by simp, h1.out, u1.out, Nat.le_trans (Tx.aft_le _ _) hle, fun _ => ⟨rfl, rfl⟩, by simp⟩
 ·go_enter Tryz.func78, Tryz.ntmps78
  go_wp2
  go_ret
  unfold NextPostE
  exact ⟨l, true, by simp, HR.out, Fr.refl _ _, Nat.le_refl _, by simp, by simp⟩
theorem load_pt {W : World} {b : Nat} {v0 v1 : Value} (h : VRow W b 48 [v0, v1]) : (loadVar 48 ⟨b, 0, none⟩).run Tryz.prog W = .ok (.agg #[v0, v1]) W := by
 have c0 := h.cell (i := 0) (v := v0) rfl
 have c1 := h.cell (i := 1) (v := v1) rfl
 simp [go_sem, c0, c1]
theorem ret_pt {a : Act} {W : World} {Q : Ending → World → Prop} {b : Nat} {v0 v1 : Value} (h4 : a.tmps.getD 2 undef = .pointer (some ⟨b, 0, none⟩)) (hd : a.defers = []) (hrow : VRow W b 48 [v0, v1])
  (hQ : Q (.returned (.agg #[v0, v1])) W) : bodyPost Tryz.prog Tryz.f157 Q .ret a W := by
 refine bodyPost_ret (v := .agg #[v0, v1]) ?_ hd hQ
 rw [results_cell Tryz.results157, h4]
 simp only [asAddr, Sem.run_pure, Result.andThen_ok]
 exact load_pt hrow
def PPtPost (l : List UInt8) (bad off : Bool) (rb : Nat) (w : World) (e : Ending) (w' : World) : Prop :=
 ∃ (x y : Int) (l' : List UInt8) (bad' off' : Bool), e = .returned (.agg #[.int .i64 x, .int .i64 y]) ∧ RT w' rb l' bad' off' ∧ Fr (· = rb) w w' ∧ ((if bad = true then none else Wt.point l off) = (if bad' = true then none else some ((x, y), l', off')) ∧ (bad' = false → l'.length + 1 ≤ l.length)) ∧ l'.length ≤ 6000
theorem Wt.coord_bare (l : List UInt8) (o : Bool) : Wt.coord true (Tx.bare l) o = Wt.coord true l o := by unfold Wt.coord; rw [Tx.bare_bare]
set_option maxRecDepth 100000 in
set_option maxHeartbeats 4000000 in
theorem ppoint_any (l : List UInt8) (bad off : Bool) (rb : Nat) (w : World) (hr : RT w rb l bad off) (hl : l.length ≤ 6000) :
  Calls Tryz.prog 157 #[.pointer (some ⟨rb, 0, none⟩)] w (PPtPost l bad off rb w) := by
 have hlb := Tx.bare_le l
 have HRA : Hid (RT (w.alloc (.cells #[.int .i64 0, .int .i64 0] 48)) rb l bad off) := VRow.alloc hr _
 have hrl := hide (VRow.lt hr)
 have HV := hide (VRow.new w [.int .i64 0, .int .i64 0] 48)
 clear hr
 go_enter Tryz.func157, Tryz.ntmps157
 go_wp2_with fail
 refine (blanks_any l bad off rb _ HRA.out hl).mono ?_
 rintro e w1 ⟨n1, rfl, -, h1, u1⟩
 replace h1 := hide h1
 replace u1 := hide u1
 go_wp2_with fail
 refine (pnumber_any (Tx.bare l) (Tx.bare_bare l) bad off rb _ h1.out (by omega)).mono ?_
 rintro e w2 ⟨x, l2, b2, o2, rfl, h2, u2, p2, hl2⟩
 rw [Wt.coord_bare] at p2
 replace h2 := hide h2
 replace u2 := hide u2
 replace p2 := hide p2
 have hl2' : l2.length ≤ 6000 := by omega
 have hlb2 := Tx.bare_le l2
 go_wp2_with fail
 refine (blanks_any l2 b2 o2 rb _ h2.out hl2').mono ?_
 rintro e w3 ⟨n3, rfl, hn3, h3, u3⟩
 obtain ⟨gp, hgp⟩ : ∃ gp, gp = Wt.gap l2 := ⟨_, rfl⟩
 have hgap := (Tx.bare_gap l2)
 rw [← hn3, ← hgp] at hgap
 have HGP := hide hgp
 obtain ⟨-, c1, -, -, f1, -⟩ := h3.facts
 replace h3 := hide h3
 replace u3 := hide u3
 clear hgp hn3
 cases gp
 ·have hb0 : ((n3 : Int) == 0) = true := beq_iff_eq.2 (by have := hgap.2 rfl; omega)
  clear hgap
  have h3b : Hid (RT (w3.setCell ⟨rb, 1, none⟩ (.bool true)) rb (Tx.bare l2) (b2 || !Wt.gap l2) o2) := by
   rw [← HGP.out]
   have := h3.out.bad true
   simpa [Hid] using this
  go_wp2_with fail
  refine (pnumber_any (Tx.bare l2) (Tx.bare_bare l2) _ o2 rb _ h3b.out (by omega)).mono ?_
  rintro e w4 ⟨y, l4, b4, o4, rfl, h4, u4, p4, hl4⟩
  rw [Wt.coord_bare] at p4
  have HP := hide (Wt.point_of p2.out p4)
  have HF : Hid (Fr (· = rb) (w.alloc (.cells #[.int .i64 0, .int .i64 0] 48)) w4) := (((u1.out.trans u2.out).trans u3.out).setCell (p := ⟨rb, 1, none⟩) rfl _).trans u4
  have hne : w.heap.size ≠ rb := by have := hrl.out; omega
  have hv4 := HF.out.row HV.out hne
  have v0 := hv4.cell (i := 0) rfl
  have v1 := hv4.cell (i := 1) rfl
  have g0 := hv4.frozen 0
  have g1 := hv4.frozen 1
  have HV4 := hide hv4
  replace h4 := hide h4
  clear u4 p4 hv4
  go_wp2
  refine ret_pt rfl rfl ((HV4.out.set 0 _).set 1 _) ⟨x, y, l4, b4, o4, rfl, VRow.setOther (VRow.setOther h4.out (a := ⟨w.heap.size, 0, none⟩) (fun e => hne e.symm) _) (a := ⟨w.heap.size, 1, none⟩) (fun e => hne e.symm) _, (((Fr.of_up ((Up.refl w).alloc _)).trans HF.out).setNew (p := ⟨w.heap.size, 0, none⟩) (Nat.le_refl _) _).setNew (p := ⟨w.heap.size, 1, none⟩) (Nat.le_refl _) _, HP.out, by omega⟩
 ·have hb0 : ((n3 : Int) == 0) = false := beq_eq_false_iff_ne.2 (fun e => by have := hgap.1 (by omega); cases this)
  clear hgap
  have h3b : Hid (RT w3 rb (Tx.bare l2) (b2 || !Wt.gap l2) o2) := by
   rw [← HGP.out]
   have := h3.out
   simpa [Hid] using this
  go_wp2_with fail
  refine (pnumber_any (Tx.bare l2) (Tx.bare_bare l2) _ o2 rb _ h3b.out (by omega)).mono ?_
  rintro e w4 ⟨y, l4, b4, o4, rfl, h4, u4, p4, hl4⟩
  rw [Wt.coord_bare] at p4
  have HP := hide (Wt.point_of p2.out p4)
  have HF : Hid (Fr (· = rb) (w.alloc (.cells #[.int .i64 0, .int .i64 0] 48)) w4) := ((u1.out.trans u2.out).trans u3.out).trans u4
  have hne : w.heap.size ≠ rb := by have := hrl.out; omega
  have hv4 := HF.out.row HV.out hne
  have v0 := hv4.cell (i := 0) rfl
  have v1 := hv4.cell (i := 1) rfl
  have g0 := hv4.frozen 0
  have g1 := hv4.frozen 1
  have HV4 := hide hv4
  replace h4 := hide h4
  clear u4 p4 hv4
  go_wp2
  refine ret_pt rfl rfl ((HV4.out.set 0 _).set 1 _) ⟨x, y, l4, b4, o4, rfl, VRow.setOther (VRow.setOther h4.out (a := ⟨w.heap.size, 0, none⟩) (fun e => hne e.symm) _) (a := ⟨w.heap.size, 1, none⟩) (fun e => hne e.symm) _, (((Fr.of_up ((Up.refl w).alloc _)).trans HF.out).setNew (p := ⟨w.heap.size, 0, none⟩) (Nat.le_refl _) _).setNew (p := ⟨w.heap.size, 1, none⟩) (Nat.le_refl _) _, HP.out, by omega⟩
theorem more_and {b p : Bool} (h : (!b && p) = true) : b = false ∧ p = true := by cases b <;> cases p <;> simp at h ⊢
theorem more_bad {b p q m c : Bool} (hm : m = (!b && p)) (h2 : m = false → c = (b || !q)) : c = false → b = false := by
 intro e
 cases b
 ·rfl
 ·have := h2 (by rw [hm]; rfl)
  rw [e] at this
  simp at this
def pRgPost (l : List UInt8) (bad0 off0 : Bool) (rb : Nat) (w : World) (e : Ending) (w' : World) : Prop :=
 ∃ (x : L1) (l' : List UInt8) (bad off : Bool), e = .returned x.v ∧ x.ok w' ∧ RT w' rb l' bad off ∧ Fr (· = rb) w w' ∧ (if bad0 = true then none else Wt.ring l off0) = (if bad = true then none else some (x.r, l', off)) ∧ l'.length ≤ 6000
set_option maxRecDepth 100000 in
set_option maxHeartbeats 4000000 in
theorem pRg_any (l : List UInt8) (bad0 off0 : Bool) (rb : Nat) (w : World) (hr : RT w rb l bad0 off0) (hl : l.length ≤ 6000) :
  Calls Tryz.prog 146 #[.pointer (some ⟨rb, 0, none⟩)] w (pRgPost l bad0 off0 rb w) := by
 have HR := hide hr
 clear hr
 go_enter Tryz.func146, Tryz.ntmps146
 go_wp2_with fail
 refine (need_any [40] l bad0 off0 rb _ HR.out hl (by simp)).mono ?_
 rintro e w1 ⟨rfl, h1, u1⟩
 have HT := hide (Wt.begin_ Wt.point l off0 bad0)
 have hl1 : (Tx.aft [40] (Tx.bare l)).length ≤ l.length := Nat.le_trans (Tx.aft_le _ _) (Tx.bare_le l)
 obtain ⟨l1, hl1e⟩ : ∃ l1, l1 = Tx.aft [40] (Tx.bare l) := ⟨_, rfl⟩
 obtain ⟨b1, hb1e⟩ : ∃ b1, b1 = (bad0 || !Tx.pre [40] (Tx.bare l)) := ⟨_, rfl⟩
 rw [← hl1e, ← hb1e] at h1 HT
 have hl1b : (Tx.aft [40] (Tx.bare l)).length ≤ (Tx.bare l).length := Tx.aft_le _ _
 rw [← hl1e] at hl1 hl1b
 rw [← hb1e]
 have HQ := hide (P1.start h1 (Nat.le_trans hl1 hl))
 have HF1 := hide u1
 clear h1 u1 hl1e hb1e
 go_wp2_with fail
 go_loopw [3, 4] (fun v mv wr => ∃ (k : Nat) (r : List Pnt) (l' : List UInt8) (bad off more : Bool) (u : Value), u = v ∧ mv = .bool more ∧ Hid (P1 w1 wr rb u r l' bad off) ∧ Hid (more = true → bad = false ∧ l'.length ≤ k ∧ (if bad0 = true then none else Wt.ring l off0) = Bn.pre r (Wt.items Wt.point (k + 1) l' off)) ∧ Hid (more = false → (if bad0 = true then none else Wt.ring l off0) = if bad = true then none else some (r, l', off))) (fun v _ _ => 7000 - lenS v)
 case atStart =>
  refine ⟨(Tx.bare l).length, [], l1, b1, off0, !b1, _, rfl, rfl, HQ, fun e => ?_, fun e => ?_⟩
  ·have e1 : b1 = false := by simpa using e
   refine ⟨e1, hl1b, ?_⟩
   exact HT.out.trans (by rw [e1]; rfl)
  ·have e1 : b1 = true := by simpa using e
   exact HT.out.trans (by rw [e1]; rfl)
 case round =>
  obtain ⟨wo, hw⟩ : ∃ x, x = wr := ⟨_, rfl⟩
  subst hw
  obtain ⟨k, r, l2, bad, off, more, v, rfl, rfl, HI, H1, H2⟩ := hrel
  have hl2 := HI.out.rest
  obtain ⟨va, vn, vc, rfl⟩ : ∃ a n c, v = .slice a n c := own_shape HI.out.own
  obtain rfl : vn = r.length := by obtain ⟨a, c, e⟩ := own_len HI.out.own; cases e; rfl
  cases more
  ·have HE := hide (H2.out rfl)
   clear H1 H2
   go_wp2
   go_ret
   exact ⟨⟨_, _⟩, l2, bad, off, rfl, own_base HI.out.own (Nat.zero_le _), HI.out.sd, HF1.out.trans HI.out.fr, HE.out, hl2⟩
  ·obtain ⟨hbf, hk, HT2⟩ := H1.out rfl
   subst hbf
   have hs6 := HI.out.sum rfl
   replace HT2 := hide HT2
   clear H1 H2
   go_wp2_with fail
   refine (ppoint_any l2 false off rb _ HI.out.sd hl2).mono ?_
   rintro e w4 ⟨x, y, l4, b4, o4, rfl, h4, u4, hp, hl4⟩
   have HP := hide hp
   obtain ⟨wA, hwA⟩ : ∃ wA, wA = w4.alloc (.cells #[.int .i64 x, .int .i64 y] 48) := ⟨_, rfl⟩
   have hnA := VRow.new w4 [.int .i64 x, .int .i64 y] 48
   have HF : Hid (Fr (· = rb) wo wA) := by rw [hwA]; exact u4.alloc _
   replace h4 : Hid (RT wA rb l4 b4 o4) := by rw [hwA]; exact VRow.alloc h4 _
   have n0 := hnA.cell (i := 0) rfl
   have n1 := hnA.cell (i := 1) rfl
   have HO : Hid (wA.ownsRow w1.heap.size 48 2 (.slice va r.length vc) r.length (flat r)) := own_fr HI.out.own HF.out fun g hg e => own_row_ne HI.out.own HI.out.sd (by decide) (e ▸ hg)
   have HOA := hide (HO.out.alloc (.cells #[.int .i64 x, .int .i64 y] 48))
   have HNW : Hid (((w4.alloc (.cells #[.int .i64 x, .int .i64 y] 48)).alloc (.cells #[.int .i64 x, .int .i64 y] 48)).heap[w4.heap.size + 1]? = some (.cells #[.int .i64 x, .int .i64 y] 48)) := by
    have := heap_alloc_new (w4.alloc (.cells #[.int .i64 x, .int .i64 y] 48)) (.cells #[.int .i64 x, .int .i64 y] 48)
    simpa [Hid] using this
   clear u4 hp hnA
   subst hwA
   have hrb : Hid (r.length ≤ 1073741824) := by show _ ≤ _; omega
   have hsz := hide (HI.out.fr.trans HF.out).size
   have HLT : Hid (b4 = false → r.length + 1 + l4.length ≤ 6000) := fun e => by
    have h7 := HP.out.2 e
    omega
   go_wp2_with (first | (at_builtin; refine wpList_app el_pt rfl (.tmp 13) (.tmp 15) rfl w1.heap.size _ _ _ (by rfl) HOA.out (w4.heap.size + 1) [.int .i64 x, .int .i64 y] (by rfl) rfl HNW.out (by intro u hu; simp at hu; rcases hu with rfl | rfl <;> rfl) hrb.out (by have := hsz.out; simp at this ⊢; omega) ?_; intro g cap w5 hown5 hg5 hat5 hlt5; have hq5 := hide (HI.out.step' (by omega) h4.out HF.out HLT.out hl4 hown5 hg5); clear hat5 hlt5 hown5 hg5) | (go_at_call 78; fail))
   have HG := Wt.go_on (bad := false) HT2.out HP.out.1
   obtain ⟨hg1, hg2⟩ := HG
   replace hg1 := hide hg1
   replace hg2 := hide hg2
   refine (next_any l4 b4 o4 rb _ hq5.out.sd hl4).mono ?_
   rintro e w6 ⟨l6, b6, rfl, h6, u6, hl6, hn1, hn2⟩
   obtain ⟨M, hM⟩ : ∃ M, M = (!b4 && Tx.pre [44] (Tx.bare l4)) := ⟨_, rfl⟩
   rw [← hM] at hn1 hn2 hg1 hg2 ⊢
   have hq6 := hide (hq5.out.sd' h6 u6 hl6 (more_bad hM (fun h => (hn2 h).1) ))
   replace hn1 := hide hn1
   replace hn2 := hide hn2
   have HMM := hide hM
   clear h6 u6 hM
   go_wp2
   go_roundw
   case rel =>
    refine ⟨k - 1, r ++ [(x, y)], l6, b6, o4, M, _, rfl, rfl, hq6, fun e => ?_, fun e => ?_⟩
    ·obtain ⟨a1, a2⟩ := hn1.out e
     have a3 := hg1.out e
     have a4 : b4 = false ∧ Tx.pre [44] (Tx.bare l4) = true := more_and (HMM.out.symm.trans e)
     have a5 := Wt.aft_len a4.2
     have a6 := Tx.bare_le l4
     have a7 := HP.out.2 a4.1
     rw [← a2] at a3 a5
     refine ⟨a1, by omega, ?_⟩
     rw [show k - 1 + 1 = k by omega]
     exact a3
    ·obtain ⟨a1, a2⟩ := hn2.out e
     have a3 := hg2.out e
     rw [← a1] at a3
     rw [a3]
     cases b6
     ·first
      | (rw [a2 rfl]; done)
      | (rw [a2 rfl]; rfl)
     ·rfl
   case measure => simp [lenS]; omega
namespace Js
def name (l : List UInt8) : Option (List Int × List UInt8) := (str (Tx.bare l)).bind fun x => if Tx.pre [58] (Tx.bare x.2) = true then some (x.1, Tx.aft [58] (Tx.bare x.2)) else none
theorem mem_name (f : List UInt8 → Option (V × List UInt8)) (l : List UInt8) : mem true f l = (name l).bind fun x => (f x.2).map fun y => ((x.1, y.1), y.2) := by
  unfold mem name
  simp only [if_true]
  cases str (Tx.bare l) with
  | none => rfl
  | some x =>
    simp only [Option.bind_some]
    split <;> rfl
theorem memS_name (l : List UInt8) (o : Bool) : memS l o = (name l).bind fun x => memV x.1 x.2 o := by
  unfold memS name
  cases str (Tx.bare l) with
  | none => rfl
  | some x =>
    simp only [Option.bind_some]
    split <;> rfl
def lstD (b e : UInt8) (nm : Bool) (g : V → V) : Nat → List UInt8 → Option (V × List UInt8)
 | 0, _ => none
 | d + 1, l => (list0 b e (mem nm (rd d)) l).map fun x => (g (ofM x.1), x.2)
theorem rd_eq (d : Nat) (l : List UInt8) : rd d l = if Tx.at_ (Tx.bare l) 0 = 91 then lstD 91 93 false .lst d l else if Tx.at_ (Tx.bare l) 0 = 123 then lstD 123 125 true .obj d l else leaf (Tx.bare l) := by
  cases d with
  | zero =>
    simp only [rd, lstD]
    by_cases h1 : Tx.at_ (Tx.bare l) 0 = 91
    · simp [h1]
    · by_cases h2 : Tx.at_ (Tx.bare l) 0 = 123
      · simp [h2]
      · simp [h1, h2]
  | succ d => rfl
theorem lstD_bare (b e : UInt8) (nm : Bool) (g : V → V) (d : Nat) (l : List UInt8) : lstD b e nm g d (Tx.bare l) = lstD b e nm g d l := by
 cases d with
 | zero => rfl
 | succ d => simp only [lstD, list0, Tx.bare_bare]
theorem num_zero {s : List UInt8} (h : (57 : Int) < Tx.at_ s 0) : Tx.num false s = 0 := by
 by_cases h0 : Tx.num false s = 0
 ·exact h0
 ·have := num_first h0; omega
theorem leaf_word {s : List UInt8} (c : UInt8) (k : List UInt8) (hk : (c :: k = tru) ∨ (c :: k = fal) ∨ (c :: k = nul)) (h : Tx.at_ s 0 = c.toNat) : leaf s = if Tx.pre (c :: k) s = true then some (.word, Tx.aft (c :: k) s) else none := by
  have w : ∀ (c2 : UInt8) (k2 : List UInt8), c2 ≠ c → Tx.pre (c2 :: k2) s = false := by
    intro c2 k2 h2
    cases hp : Tx.pre (c2 :: k2) s
    · rfl
    · have := word_first hp
      exact absurd (UInt8.toNat_inj.1 (by omega)) h2
  unfold leaf
  rcases hk with hk | hk | hk
  · have hc : c = 116 := (List.cons.inj hk).1
    rw [← hk]
    subst hc
    cases hp : Tx.pre (116 :: k) s with
    | true => rw [Tx.aft_t hp, hk]; simp only [if_true, Bool.false_eq_true, if_false]; rfl
    | false =>
      have w2 : Tx.pre fal s = false := w 102 _ (by decide)
      have w3 : Tx.pre nul s = false := w 110 _ (by decide)
      have h' : Tx.at_ s 0 = 116 := h
      simp only [w2, w3, Bool.false_eq_true, if_false]
      rw [if_neg (by omega), if_pos (num_zero (by omega))]
  · have hc : c = 102 := (List.cons.inj hk).1
    have w1 : Tx.pre tru s = false := w 116 _ (by rw [hc]; decide)
    rw [w1, ← hk]
    subst hc
    cases hp : Tx.pre (102 :: k) s with
    | true => rw [Tx.aft_t hp, hk]; simp only [if_true, Bool.false_eq_true, if_false]; rfl
    | false =>
      have w3 : Tx.pre nul s = false := w 110 _ (by decide)
      have h' : Tx.at_ s 0 = 102 := h
      simp only [w3, Bool.false_eq_true, if_false]
      rw [if_neg (by omega), if_pos (num_zero (by omega))]
  · have hc : c = 110 := (List.cons.inj hk).1
    have w1 : Tx.pre tru s = false := w 116 _ (by rw [hc]; decide)
    have w2 : Tx.pre fal s = false := w 102 _ (by rw [hc]; decide)
    rw [w1, w2, ← hk]
    subst hc
    cases hp : Tx.pre (110 :: k) s with
    | true => rw [Tx.aft_t hp, hk]; simp only [if_true, Bool.false_eq_true, if_false]; rfl
    | false =>
      have h' : Tx.at_ s 0 = 110 := h
      simp only [Bool.false_eq_true, if_false]
      rw [if_neg (by omega), if_pos (num_zero (by omega))]
theorem leaf_rest {s : List UInt8} (h1 : Tx.at_ s 0 ≠ 116) (h2 : Tx.at_ s 0 ≠ 102) (h3 : Tx.at_ s 0 ≠ 110) (h4 : Tx.at_ s 0 ≠ 34) : leaf s = if Tx.num false s = 0 then none else some (.num (s.take (Tx.num false s)), s.drop (Tx.num false s)) := by
 have w : ∀ (c2 : UInt8) (k2 : List UInt8), Tx.at_ s 0 ≠ c2.toNat → Tx.pre (c2 :: k2) s = false := by
  intro c2 k2 h2
  cases hp : Tx.pre (c2 :: k2) s
  ·rfl
  ·exact absurd (word_first hp) h2
 have w1 : Tx.pre tru s = false := w 116 _ h1
 have w2 : Tx.pre fal s = false := w 102 _ h2
 have w3 : Tx.pre nul s = false := w 110 _ h3
 unfold leaf
 simp only [w1, w2, w3, Bool.false_eq_true, if_false]
 rw [if_neg h4]
end Js
def NmPost (l : List UInt8) (bad off : Bool) (rb : Nat) (w : World) (e : Ending) (w' : World) : Prop :=
 ∃ (v : Value) (c : List Int) (l' : List UInt8) (bad' : Bool), e = .returned v ∧ w'.ownsRow w.heap.size 3 1 v c.length (Js.ints c) ∧ RT w' rb l' bad' off ∧ Fr (· = rb) w w' ∧ (if bad = true then none else Js.name l) = (if bad' = true then none else some (c, l')) ∧ l'.length ≤ l.length ∧ c.length ≤ 6000
set_option maxRecDepth 100000 in
set_option maxHeartbeats 2000000 in
theorem memberName_any (l : List UInt8) (bad off : Bool) (rb : Nat) (w : World) (hr : RT w rb l bad off) (hl : l.length ≤ 6000) :
  Calls Tryz.prog 79 #[.pointer (some ⟨rb, 0, none⟩)] w (NmPost l bad off rb w) := by
 have HR := hide hr
 clear hr
 go_enter Tryz.func79, Tryz.ntmps79
 go_wp2_with fail
 refine (characters_any l bad off rb _ HR.out hl).mono ?_
 rintro e w1 ⟨v, c, l1, b1, rfl, ho, h1, u1, p1, hl1, hcl⟩
 have HN := hide (need_any [58] l1 b1 off rb w1 h1 (by omega) (by simp))
 have HH1 := hide h1
 have HO := hide ho
 have HU := hide u1
 have HP := hide p1
 clear ho h1 u1 p1
 go_wp2_with fail
 refine HN.out.mono ?_
 rintro e w2 ⟨rfl, h2, u2⟩
 have HO2 : Hid (w2.ownsRow w.heap.size 3 1 v c.length (Js.ints c)) := own_fr HO.out u2 fun g hg e => own_row_ne HO.out HH1.out (by decide) (e ▸ hg)
 replace h2 := hide h2
 replace u2 := hide u2
 go_wp2
 go_ret
 refine ⟨v, c, _, _, rfl, HO2.out, h2.out, HU.out.trans u2.out, ?_, Nat.le_trans (Nat.le_trans (Tx.aft_le _ _) (Tx.bare_le _)) hl1, hcl⟩
 have h := HP.out
 unfold Js.name
 cases bad
 ·simp only [Bool.false_eq_true, if_false] at h ⊢
  rw [h]
  cases b1
  ·simp only [Bool.false_eq_true, if_false, Option.bind_some, Bool.false_or]
   cases Tx.pre [58] (Tx.bare l1) <;> rfl
  ·rfl
 ·simp only [if_true] at h ⊢
  cases b1
  ·cases h
  ·rfl
def ValPost (P : Option (Js.V × List UInt8)) (l : List UInt8) (bad off : Bool) (rb : Nat) (w : World) (e : Ending) (w' : World) : Prop :=
 ∃ (v : Js.V) (l' : List UInt8) (bad' : Bool), e = .returned (.tuple #[]) ∧ RT w' rb l' bad' off ∧ Fr (· = rb) w w' ∧ (if bad = true then none else P) = (if bad' = true then none else some (v, l')) ∧ l'.length ≤ l.length
def ValAt (d : Nat) : Prop := ∀ (l : List UInt8) (bad off : Bool) (rb : Nat) (w : World), RT w rb l bad off → l.length ≤ 6000 → Calls Tryz.prog 83 #[.pointer (some ⟨rb, 0, none⟩), .int .i64 d] w (ValPost (Js.rd d l) l bad off rb w)
def moreN : Value → Nat
 | .bool true => 1
 | _ => 0
set_option maxRecDepth 100000 in
set_option maxHeartbeats 4000000 in
theorem list_zero (l : List UInt8) (bad off : Bool) (rb : Nat) (w : World) (hr : RT w rb l bad off) :
  Calls Tryz.prog 120 #[.pointer (some ⟨rb, 0, none⟩), .int .i64 0] w (ValPost (Js.lstD 91 93 false .lst 0 l) l bad off rb w) := by
 obtain ⟨c0, c1, c2, f0, f1, f2⟩ := hr.facts
 have HR := hide hr
 clear hr c2 f0 f2
 go_enter Tryz.func120, Tryz.ntmps120
 go_wp2
 refine bodyPost_ret (v := .tuple #[]) (by simp [results, Tryz.results120, go_sem]) rfl ?_
 exact ⟨.nil, l, true, rfl, HR.out.bad true, (Fr.refl (· = rb) _).setCell (p := ⟨rb, 1, none⟩) rfl _, by cases bad <;> rfl, Nat.le_refl _⟩
set_option maxRecDepth 100000 in
set_option maxHeartbeats 4000000 in
theorem object_zero (l : List UInt8) (bad off : Bool) (rb : Nat) (w : World) (hr : RT w rb l bad off) :
  Calls Tryz.prog 121 #[.pointer (some ⟨rb, 0, none⟩), .int .i64 0] w (ValPost (Js.lstD 123 125 true .obj 0 l) l bad off rb w) := by
 obtain ⟨c0, c1, c2, f0, f1, f2⟩ := hr.facts
 have HR := hide hr
 clear hr c2 f0 f2
 go_enter Tryz.func121, Tryz.ntmps121
 go_wp2
 refine bodyPost_ret (v := .tuple #[]) (by simp [results, Tryz.results121, go_sem]) rfl ?_
 exact ⟨.nil, l, true, rfl, HR.out.bad true, (Fr.refl (· = rb) _).setCell (p := ⟨rb, 1, none⟩) rfl _, by cases bad <;> rfl, Nat.le_refl _⟩
set_option maxRecDepth 100000 in
set_option maxHeartbeats 4000000 in
theorem list_succ (d : Nat) (hd : d ≤ 100) (IH : ValAt d) (l : List UInt8) (bad0 off : Bool) (rb : Nat) (w : World) (hr : RT w rb l bad0 off) (hl : l.length ≤ 6000) :
  Calls Tryz.prog 120 #[.pointer (some ⟨rb, 0, none⟩), .int .i64 ((d : Int) + 1)] w (ValPost (Js.lstD 91 93 false .lst (d + 1) l) l bad0 off rb w) := by
 have HR := hide hr
 have HIH := hide IH
 clear hr IH
 have hd0 : ¬ (d : Int) + 1 ≤ 0 := by omega
 have hd1 : (d : Int) + 1 - 1 = d := by omega
 go_enter Tryz.func120, Tryz.ntmps120
 go_wp2_with fail
 refine (begin_any 91 93 l bad0 off rb _ HR.out hl).mono ?_
 rintro e w1 ⟨l1, b1, more1, rfl, h1, u1, hl1, hm1, hm2⟩
 have HT1 := hide (fun h => And.intro (hm1 h).1 (And.intro (hm1 h).2.1 ((hm1 h).2.2.2 _ (Js.mem false (Js.rd d)))))
 have HT2 := hide (fun h => (hm2 h).2 _ (Js.mem false (Js.rd d)))
 obtain ⟨T, hTe⟩ : ∃ T, T = (if bad0 = true then none else Js.list0 91 93 (Js.mem false (Js.rd d)) l) := ⟨_, rfl⟩
 rw [← hTe] at HT1 HT2
 have HTE := hide hTe
 replace h1 := hide h1
 replace u1 := hide u1
 clear hm1 hm2 hTe
 go_wp2_with fail
 go_loopw [4] (fun mv wr => ∃ (k : Nat) (r : List (List Int × Js.V)) (l' : List UInt8) (bad more : Bool), mv = .bool more ∧ Hid (RT wr rb l' bad off) ∧ Hid (Fr (· = rb) w wr) ∧ l'.length ≤ l.length ∧ Hid (more = true → bad = false ∧ l'.length ≤ k ∧ T = Js.pre0 r (Js.items0 93 (Js.mem false (Js.rd d)) (k + 1) l')) ∧ Hid (more = false → T = if bad = true then none else some (r, l'))) (fun mv wr => 2 * rtM wr rb + moreN mv)
 case atStart => exact ⟨(Tx.bare l).length, [], l1, b1, more1, rfl, h1, u1, hl1, HT1.out, HT2.out⟩
 case round =>
  obtain ⟨wo, hw⟩ : ∃ x, x = wr := ⟨_, rfl⟩
  subst hw
  obtain ⟨k, r, l2, bad, more, rfl, HI, HF, hl2, H1, H2⟩ := hrel
  have hl26 : l2.length ≤ 6000 := by omega
  cases more
  ·have HE := hide (H2.out rfl)
   clear H1 H2
   go_wp2
   refine bodyPost_ret (v := .tuple #[]) (by simp [results, Tryz.results120, go_sem]) rfl ?_
   refine ⟨.lst (Js.ofM r), l2, bad, rfl, HI.out, HF.out, ?_, hl2⟩
   have h := HE.out
   rw [HTE.out] at h
   simp only [Js.lstD]
   cases bad0
   ·simp only [Bool.false_eq_true, if_false] at h ⊢
    rw [h]
    cases bad <;> rfl
   ·simp only [if_true] at h ⊢
    cases bad
    ·cases h
    ·rfl
  ·obtain ⟨hbf, hk, HT⟩ := H1.out rfl
   subst hbf
   replace HT := hide HT
   clear H1 H2
   go_wp2_with fail
   refine (HIH.out l2 false off rb _ HI.out hl26).mono ?_
   rintro e w4 ⟨v, l4, b4, rfl, h4, u4, p4, hl4⟩
   have HP : Hid ((if false = true then none else Js.mem false (Js.rd d) l2) = if b4 = true then none else some ((([] : List Int), v), l4)) := by
    show _ = _
    simp only [Bool.false_eq_true, if_false] at p4 ⊢
    simp only [Js.mem, Bool.false_eq_true, if_false, p4]
    cases b4 <;> rfl
   have HLT : Hid (b4 = false → l4.length + 1 ≤ l2.length) := fun e => by
    rw [e] at p4
    exact Js.rd_lt _ _ _ _ p4
   have HU : Hid (Fr (· = rb) w w4) := HF.out.trans u4
   obtain ⟨hg1, hg2⟩ := Js.go_on0 (bad := false) HT.out HP.out
   replace hg1 := hide hg1
   replace hg2 := hide hg2
   have HN := hide (nextE_any 93 l4 b4 off rb w4 h4 (by omega))
   clear h4 u4 p4
   go_wp2_with fail
   refine HN.out.mono ?_
   rintro e w6 ⟨l6, b6, rfl, h6, u6, hl6, hn1, hn2⟩
   obtain ⟨M, hM⟩ : ∃ M, M = (!b4 && Tx.pre [44] (Tx.bare l4)) := ⟨_, rfl⟩
   rw [← hM] at hn1 hn2 hg1 hg2 ⊢
   replace hn1 := hide hn1
   replace hn2 := hide hn2
   have HMM := hide hM
   replace h6 := hide h6
   replace u6 := hide u6
   clear hM
   go_wp2
   go_roundw
   case rel =>
    refine ⟨k - 1, r ++ [(([] : List Int), v)], l6, b6, M, rfl, h6, HU.out.trans u6.out, by omega, fun e => ?_, fun e => ?_⟩
    ·obtain ⟨a1, a2⟩ := hn1.out e
     have a3 := hg1.out e
     have a4 : b4 = false ∧ Tx.pre [44] (Tx.bare l4) = true := more_and (HMM.out.symm.trans e)
     have a5 := Wt.aft_len a4.2
     have a6 := Tx.bare_le l4
     have a7 := HLT.out a4.1
     rw [← a2] at a3 a5
     refine ⟨a1, by omega, ?_⟩
     rw [show k - 1 + 1 = k by omega]
     exact a3
    ·obtain ⟨a1, a2⟩ := hn2.out e
     have a3 := hg2.out e
     rw [← a1] at a3
     rw [a3]
     cases b6
     ·rw [a2 rfl]
     ·rfl
   case measure =>
    rw [rtM_of h6.out, rtM_of HI.out]
    cases M
    ·cases b6 <;> simp [moreN] <;> omega
    ·have a4 : b4 = false ∧ Tx.pre [44] (Tx.bare l4) = true := more_and HMM.out.symm
     have a7 := HLT.out a4.1
     cases b6 <;> simp [moreN] <;> omega
set_option maxRecDepth 100000 in
set_option maxHeartbeats 4000000 in
theorem object_succ (d : Nat) (hd : d ≤ 100) (IH : ValAt d) (l : List UInt8) (bad0 off : Bool) (rb : Nat) (w : World) (hr : RT w rb l bad0 off) (hl : l.length ≤ 6000) :
  Calls Tryz.prog 121 #[.pointer (some ⟨rb, 0, none⟩), .int .i64 ((d : Int) + 1)] w (ValPost (Js.lstD 123 125 true .obj (d + 1) l) l bad0 off rb w) := by
 have HR := hide hr
 have HIH := hide IH
 clear hr IH
 have hd0 : ¬ (d : Int) + 1 ≤ 0 := by omega
 have hd1 : (d : Int) + 1 - 1 = d := by omega
 go_enter Tryz.func121, Tryz.ntmps121
 go_wp2_with fail
 refine (begin_any 123 125 l bad0 off rb _ HR.out hl).mono ?_
 rintro e w1 ⟨l1, b1, more1, rfl, h1, u1, hl1, hm1, hm2⟩
 have HT1 := hide (fun h => And.intro (hm1 h).1 (And.intro (hm1 h).2.1 ((hm1 h).2.2.2 _ (Js.mem true (Js.rd d)))))
 have HT2 := hide (fun h => (hm2 h).2 _ (Js.mem true (Js.rd d)))
 obtain ⟨T, hTe⟩ : ∃ T, T = (if bad0 = true then none else Js.list0 123 125 (Js.mem true (Js.rd d)) l) := ⟨_, rfl⟩
 rw [← hTe] at HT1 HT2
 have HTE := hide hTe
 replace h1 := hide h1
 replace u1 := hide u1
 clear hm1 hm2 hTe
 go_wp2_with fail
 go_loopw [4] (fun mv wr => ∃ (k : Nat) (r : List (List Int × Js.V)) (l' : List UInt8) (bad more : Bool), mv = .bool more ∧ Hid (RT wr rb l' bad off) ∧ Hid (Fr (· = rb) w wr) ∧ l'.length ≤ l.length ∧ Hid (more = true → bad = false ∧ l'.length ≤ k ∧ T = Js.pre0 r (Js.items0 125 (Js.mem true (Js.rd d)) (k + 1) l')) ∧ Hid (more = false → T = if bad = true then none else some (r, l'))) (fun mv wr => 2 * rtM wr rb + moreN mv)
 case atStart => exact ⟨(Tx.bare l).length, [], l1, b1, more1, rfl, h1, u1, hl1, HT1.out, HT2.out⟩
 case round =>
  obtain ⟨wo, hw⟩ : ∃ x, x = wr := ⟨_, rfl⟩
  subst hw
  obtain ⟨k, r, l2, bad, more, rfl, HI, HF, hl2, H1, H2⟩ := hrel
  have hl26 : l2.length ≤ 6000 := by omega
  cases more
  ·have HE := hide (H2.out rfl)
   clear H1 H2
   go_wp2
   refine bodyPost_ret (v := .tuple #[]) (by simp [results, Tryz.results121, go_sem]) rfl ?_
   refine ⟨.obj (Js.ofM r), l2, bad, rfl, HI.out, HF.out, ?_, hl2⟩
   have h := HE.out
   rw [HTE.out] at h
   simp only [Js.lstD]
   cases bad0
   ·simp only [Bool.false_eq_true, if_false] at h ⊢
    rw [h]
    cases bad <;> rfl
   ·simp only [if_true] at h ⊢
    cases bad
    ·cases h
    ·rfl
  ·obtain ⟨hbf, hk, HT⟩ := H1.out rfl
   subst hbf
   replace HT := hide HT
   clear H1 H2
   go_wp2_with fail
   refine (memberName_any l2 false off rb _ HI.out hl26).mono ?_
   rintro e w3 ⟨nv, c, l3, b3, rfl, -, h3, u3, p3, hl3, -⟩
   replace h3 := hide h3
   replace u3 := hide u3
   replace p3 := hide p3
   go_wp2_with fail
   refine (HIH.out l3 b3 off rb _ h3.out (by omega)).mono ?_
   rintro e w4 ⟨v, l4, b4, rfl, h4, u4, p4, hl4⟩
   have HP : Hid ((if false = true then none else Js.mem true (Js.rd d) l2) = if b4 = true then none else some ((c, v), l4)) := by
    show _ = _
    have q3 := p3.out
    simp only [Bool.false_eq_true, if_false] at q3 ⊢
    rw [Js.mem_name, q3]
    cases b3
    ·simp only [Bool.false_eq_true, if_false, Option.bind_some] at p4 ⊢
     rw [p4]
     cases b4 <;> rfl
    ·cases b4
     ·cases p4
     ·rfl
   have HLT : Hid (b4 = false → l4.length + 1 ≤ l2.length) := fun e => by
    have h := HP.out
    rw [e] at h
    exact Js.mem_lt (nm := true) (Js.rd_lt d) l2 (c, v) l4 h
   have hl42 : l4.length ≤ l2.length := by omega
   have HU : Hid (Fr (· = rb) w w4) := (HF.out.trans u3.out).trans u4
   obtain ⟨hg1, hg2⟩ := Js.go_on0 (bad := false) HT.out HP.out
   replace hg1 := hide hg1
   replace hg2 := hide hg2
   have HN := hide (nextE_any 125 l4 b4 off rb w4 h4 (by omega))
   clear h4 u4 p4
   go_wp2_with fail
   refine HN.out.mono ?_
   rintro e w6 ⟨l6, b6, rfl, h6, u6, hl6, hn1, hn2⟩
   obtain ⟨M, hM⟩ : ∃ M, M = (!b4 && Tx.pre [44] (Tx.bare l4)) := ⟨_, rfl⟩
   rw [← hM] at hn1 hn2 hg1 hg2 ⊢
   replace hn1 := hide hn1
   replace hn2 := hide hn2
   have HMM := hide hM
   replace h6 := hide h6
   replace u6 := hide u6
   clear hM
   go_wp2
   go_roundw
   case rel =>
    refine ⟨k - 1, r ++ [(c, v)], l6, b6, M, rfl, h6, HU.out.trans u6.out, by omega, fun e => ?_, fun e => ?_⟩
    ·obtain ⟨a1, a2⟩ := hn1.out e
     have a3 := hg1.out e
     have a4 : b4 = false ∧ Tx.pre [44] (Tx.bare l4) = true := more_and (HMM.out.symm.trans e)
     have a5 := Wt.aft_len a4.2
     have a6 := Tx.bare_le l4
     have a7 := HLT.out a4.1
     rw [← a2] at a3 a5
     refine ⟨a1, by omega, ?_⟩
     rw [show k - 1 + 1 = k by omega]
     exact a3
    ·obtain ⟨a1, a2⟩ := hn2.out e
     have a3 := hg2.out e
     rw [← a1] at a3
     rw [a3]
     cases b6
     ·rw [a2 rfl]
     ·rfl
   case measure =>
    rw [rtM_of h6.out, rtM_of HI.out]
    cases M
    ·cases b6 <;> simp [moreN] <;> omega
    ·have a4 : b4 = false ∧ Tx.pre [44] (Tx.bare l4) = true := more_and HMM.out.symm
     have a7 := HLT.out a4.1
     cases b6 <;> simp [moreN] <;> omega
namespace Js
def up (k : List UInt8) : List Int := k.map fun b => (b.toNat : Int)
theorem up_len (k : List UInt8) : (up k).length = k.length := by simp [up]
theorem up_at {k : List UInt8} {i : Nat} (h : i < k.length) : (up k)[i]? = some (Tx.at_ k i) := by
 rw [Tx.at_lt h]
 simp [up, h]
theorem take_ne {c d : List Int} {i : Nat} {a b : Int} (h : c.take i = d.take i) (ha : c[i]? = some a) (hb : d[i]? = some b) (hab : a ≠ b) : c ≠ d := by
 intro e
 rw [e, hb] at ha
 exact hab (Option.some.inj ha).symm
theorem take_eq {c d : List Int} {i : Nat} {a : Int} (h : c.take i = d.take i) (ha : c[i]? = some a) (hb : d[i]? = some a) : c.take (i + 1) = d.take (i + 1) := by
 rw [List.take_add_one, List.take_add_one, h, ha, hb]
theorem take_all {c d : List Int} (h : c.take c.length = d.take c.length) (hl : c.length = d.length) : c = d := by
 rw [List.take_length, hl, List.take_length] at h
 exact h
end Js
set_option maxRecDepth 100000 in
set_option maxHeartbeats 4000000 in
theorem same_any (c : List Int) (k : List UInt8) (base : Nat) (v : Value) (w : World) (hv : w.ownsRow base 3 1 v c.length (Js.ints c)) (hc : c.length ≤ 6000) (hk : k.length ≤ 6000) :
  Calls Tryz.prog 80 #[v, .string (bs k)] w fun e w' => e = .returned (.bool (decide (c = Js.up k))) ∧ ∃ n, w' = w.drewN n := by
 obtain ⟨e0, e1, -, -, -, -⟩ := bs_tells k
 have HK := hide (Js.up_len k)
 by_cases hlen : c.length = k.length
 ·by_cases hpos : 0 < c.length
  ·obtain ⟨g, cap, rfl, hcell⟩ := own_cell hv hpos
   replace hcell := hide hcell
   clear hv
   have hne : ((c.length : Int) != (k.length : Int)) = false := by simp [hlen]
   go_enter Tryz.func80, Tryz.ntmps80
   go_wp2
   go_loopw [5] (fun iv wr => ∃ i : Nat, i ≤ k.length ∧ iv = .int .i64 i ∧ Hid (c.take i = (Js.up k).take i) ∧ ∃ n, wr = w.drewN n) (fun iv _ => k.length - (intOf iv).toNat)
   case atStart => exact ⟨0, Nat.zero_le _, rfl, by simp [Hid], 0, rfl⟩
   case round =>
    obtain ⟨i, hi, rfl, HT, n, rfl⟩ := hrel
    by_cases hlt : i < k.length
    ·obtain ⟨a, ha⟩ : ∃ a, c[i]? = some a := ⟨c[i]'(by omega), List.getElem?_eq_getElem _⟩
     have hca : w.cell? ⟨g, i, none⟩ = some (.int .i64 a) := hcell.out i _ (by simp [Js.ints, ha])
     have HA := hide ha
     have HB := hide (Js.up_at hlt)
     have hlc : i < c.length := by omega
     have hwr : wrap64 (Tx.at_ k i) = Tx.at_ k i := by
      have := Tx.at_nn hlt
      unfold wrap64
      omega
     clear ha
     by_cases hab : a = Tx.at_ k i
     ·subst hab
      go_wp2
      go_quiet (fail)
      go_wp2
      go_roundw
      case rel => exact ⟨i + 1, by omega, by go_num, Js.take_eq HT.out HA.out HB.out, _, rfl⟩
      case measure => simp [intOf]; omega
     ·have hb2 : (a != Tx.at_ k i) = true := bne_iff_ne.2 hab
      have HNE := hide (Js.take_ne HT.out HA.out HB.out hab)
      go_wp2
      go_quiet (fail)
      go_wp2
      go_ret
      exact ⟨ret_bool (decide_eq_false HNE.out).symm, _, World.drewN_drewN _ _ _⟩
    ·have hE : c = Js.up k := Js.take_all (by have := HT.out; rwa [show i = c.length by omega] at this) (by rw [HK.out]; exact hlen)
     replace hE := hide hE
     go_wp2
     go_ret
     exact ⟨ret_bool (decide_eq_true hE.out).symm, _, rfl⟩
  ·have h0 : c = [] := List.length_eq_zero_iff.1 (by omega)
   have k0 : k = [] := List.length_eq_zero_iff.1 (by omega)
   obtain ⟨va, vc, rfl⟩ := own_len hv
   have HE : Hid (c = Js.up k) := by rw [h0, k0]; rfl
   have hz : c.length = 0 := by omega
   have hz2 : k.length = 0 := by omega
   clear hv h0 k0 hlen hpos
   rw [hz2] at e0
   rw [hz]
   go_enter Tryz.func80, Tryz.ntmps80
   go_wp2
   go_loopw [5] (fun iv wr => iv = .int .i64 0 ∧ wr = w) (fun _ _ => 0)
   case atStart => exact ⟨rfl, rfl⟩
   case round =>
    obtain ⟨rfl, rfl⟩ := hrel
    go_wp2
    go_ret
    exact ⟨ret_bool (decide_eq_true HE.out).symm, 0, rfl⟩
 ·obtain ⟨va, vc, rfl⟩ := own_len hv
  have HE : Hid (¬ c = Js.up k) := fun e => hlen (by rw [e, HK.out])
  have hne : ((c.length : Int) != (k.length : Int)) = true := bne_iff_ne.2 (by omega)
  clear hv
  go_enter Tryz.func80, Tryz.ntmps80
  go_wp2
  go_ret
  exact ⟨ret_bool (decide_eq_false HE.out).symm, 0, rfl⟩
theorem Js.val_of {P R : Option (Js.V × List UInt8)} {bad : Bool} {X : Option (Js.V × List UInt8)} (h : P = R) (hx : (if bad = true then none else R) = X) : (if bad = true then none else P) = X := by rw [h]; exact hx
set_option maxRecDepth 100000 in
set_option maxHeartbeats 8000000 in
theorem value_of (d : Nat) (HL : ∀ (l : List UInt8) (bad off : Bool) (rb : Nat) (w : World), RT w rb l bad off → l.length ≤ 6000 → Calls Tryz.prog 120 #[.pointer (some ⟨rb, 0, none⟩), .int .i64 d] w (ValPost (Js.lstD 91 93 false .lst d l) l bad off rb w))
  (HO : ∀ (l : List UInt8) (bad off : Bool) (rb : Nat) (w : World), RT w rb l bad off → l.length ≤ 6000 → Calls Tryz.prog 121 #[.pointer (some ⟨rb, 0, none⟩), .int .i64 d] w (ValPost (Js.lstD 123 125 true .obj d l) l bad off rb w)) : ValAt d := by
 intro l bad off rb w hr hl
 replace HL := hide HL
 replace HO := hide HO
 have HB := hide (blanks_any l bad off rb w hr hl)
 have hbl := Tx.bare_le l
 have HRD := hide (Js.rd_eq d l)
 have HLB := hide (fun b e nm g => Js.lstD_bare b e nm g d l)
 have HBB := hide (Tx.bare_bare l)
 obtain ⟨s, hs⟩ : ∃ s, s = Tx.bare l := ⟨_, rfl⟩
 rw [← hs] at HB HRD HBB hbl
 unfold Hid at HLB
 rw [← hs] at HLB
 replace HLB := hide HLB
 have hs6 : s.length ≤ 6000 := by omega
 have HFI := hide (fun w => first_any s w hs6)
 obtain ⟨x, hx⟩ : ∃ x, x = Js.fst s := ⟨_, rfl⟩
 rw [← hx] at HFI
 have HXX := hide hx
 have HAT : Hid (∀ y : Int, y ≠ 0 → y ≠ -1 → (x = y ↔ Tx.at_ s 0 = y)) := fun y h1 h2 => by rw [HXX.out]; exact Js.fst_eq h1 h2
 clear hs hx hr
 have k91 := HAT.out 91 (by decide) (by decide)
 have k123 := HAT.out 123 (by decide) (by decide)
 have k34 := HAT.out 34 (by decide) (by decide)
 have k116 := HAT.out 116 (by decide) (by decide)
 have k102 := HAT.out 102 (by decide) (by decide)
 have k110 := HAT.out 110 (by decide) (by decide)
 by_cases c91 : x = 91
 ·have HE : Hid (Js.rd d l = Js.lstD 91 93 false .lst d s) := by
   show _ = _
   rw [HRD.out, if_pos (k91.1 c91), HLB.out]
  subst c91
  clear k91 k123 k34 k116 k102 k110
  go_enter Tryz.func83, Tryz.ntmps83
  go_wp2_with fail
  refine HB.out.mono ?_
  rintro e w1 ⟨n1, rfl, -, h1, u1⟩
  have c0 := h1.c0
  replace h1 := hide h1
  replace u1 := hide u1
  go_wp2_with (first
   | (go_at_call 119; refine (HFI.out _).mono ?_; rintro e w2 ⟨rfl, hw⟩; replace hw := hw.symm; subst hw)
   | (go_at_call 120; fail))
  refine (HL.out s bad off rb _ h1.out hs6).mono ?_
  rintro e w3 ⟨v, l3, b3, rfl, h3, u3, p3, hl3⟩
  replace h3 := hide h3
  replace u3 := hide u3
  replace p3 := hide p3
  go_wp2
  refine bodyPost_ret (v := .tuple #[]) (by simp [results, Tryz.results83, go_sem]) rfl ?_
  exact ⟨v, l3, b3, rfl, h3.out, u1.out.trans u3.out, Js.val_of HE.out p3.out, by omega⟩
 by_cases c123 : x = 123
 ·have HE : Hid (Js.rd d l = Js.lstD 123 125 true .obj d s) := by
   show _ = _
   rw [HRD.out, if_neg (fun h => c91 (k91.2 h)), if_pos (k123.1 c123), HLB.out]
  subst c123
  clear k91 k123 k34 k116 k102 k110 c91
  go_enter Tryz.func83, Tryz.ntmps83
  go_wp2_with fail
  refine HB.out.mono ?_
  rintro e w1 ⟨n1, rfl, -, h1, u1⟩
  have c0 := h1.c0
  replace h1 := hide h1
  replace u1 := hide u1
  go_wp2_with (first
   | (go_at_call 119; refine (HFI.out _).mono ?_; rintro e w2 ⟨rfl, hw⟩; replace hw := hw.symm; subst hw)
   | (go_at_call 121; fail))
  refine (HO.out s bad off rb _ h1.out hs6).mono ?_
  rintro e w3 ⟨v, l3, b3, rfl, h3, u3, p3, hl3⟩
  replace h3 := hide h3
  replace u3 := hide u3
  replace p3 := hide p3
  go_wp2
  refine bodyPost_ret (v := .tuple #[]) (by simp [results, Tryz.results83, go_sem]) rfl ?_
  exact ⟨v, l3, b3, rfl, h3.out, u1.out.trans u3.out, Js.val_of HE.out p3.out, by omega⟩
 have HLF : Hid (Js.rd d l = Js.leaf s) := by
  show _ = _
  rw [HRD.out, if_neg (fun h => c91 (k91.2 h)), if_neg (fun h => c123 (k123.2 h))]
 have b91 := beq_eq_false_iff_ne.2 c91
 have b123 := beq_eq_false_iff_ne.2 c123
 by_cases c34 : x = 34
 ·have HE : Hid (Js.rd d l = (Js.str s).map fun y => (Js.V.txt y.1, y.2)) := by
   show _ = _
   rw [HLF.out, Js.leaf_txt (k34.1 c34)]
  subst c34
  clear k91 k123 k34 k116 k102 k110 c91 c123
  go_enter Tryz.func83, Tryz.ntmps83
  go_wp2_with fail
  refine HB.out.mono ?_
  rintro e w1 ⟨n1, rfl, -, h1, u1⟩
  have c0 := h1.c0
  replace h1 := hide h1
  replace u1 := hide u1
  go_wp2_with (first
   | (go_at_call 119; refine (HFI.out _).mono ?_; rintro e w2 ⟨rfl, hw⟩; replace hw := hw.symm; subst hw)
   | (go_at_call 117; fail))
  refine (characters_any s bad off rb _ h1.out hs6).mono ?_
  rintro e w3 ⟨cv, c, l3, b3, rfl, -, h3, u3, p3, hl3, -⟩
  rw [HBB.out] at p3
  replace h3 := hide h3
  replace u3 := hide u3
  replace p3 := hide p3
  go_wp2
  refine bodyPost_ret (v := .tuple #[]) (by simp [results, Tryz.results83, go_sem]) rfl ?_
  refine ⟨.txt c, l3, b3, rfl, h3.out, u1.out.trans u3.out, ?_, by omega⟩
  have h := p3.out
  rw [HE.out]
  cases bad
  ·simp only [Bool.false_eq_true, if_false] at h ⊢
   rw [h]
   cases b3 <;> rfl
  ·simp only [if_true] at h ⊢
   cases b3
   ·cases h
   ·rfl
 have b34 := beq_eq_false_iff_ne.2 c34
 have HWD : Hid (∀ (c : UInt8) (k : List UInt8), (c :: k = Js.tru ∨ c :: k = Js.fal ∨ c :: k = Js.nul) → x = c.toNat → x ≠ 0 → (if bad = true then none else Js.rd d l) = (if (bad || !Tx.pre (c :: k) (Tx.bare s)) = true then none else some (Js.V.word, Tx.aft (c :: k) (Tx.bare s)))) := by
  intro c k hk hc h0
  rw [HLF.out, HBB.out, Js.leaf_word c k hk ((HAT.out c.toNat (by rw [← hc]; exact h0) (by omega)).1 hc)]
  cases bad
  ·cases Tx.pre (c :: k) s <;> rfl
  ·rfl
 by_cases c116 : x = 116
 ·have HE := hide (HWD.out 116 [114, 117, 101] (.inl rfl) c116 (by omega))
  have HN := hide (fun w h => need_any [116, 114, 117, 101] s bad off rb w h hs6 (by simp))
  subst c116
  clear k91 k123 k34 k116 k102 k110 c91 c123 c34
  go_enter Tryz.func83, Tryz.ntmps83
  go_wp2_with fail
  refine HB.out.mono ?_
  rintro e w1 ⟨n1, rfl, -, h1, u1⟩
  have c0 := h1.c0
  replace h1 := hide h1
  replace u1 := hide u1
  go_wp2_with (first
   | (go_at_call 119; refine (HFI.out _).mono ?_; rintro e w2 ⟨rfl, hw⟩; replace hw := hw.symm; subst hw)
   | (go_at_call 85; fail))
  refine (HN.out _ h1.out).mono ?_
  rintro e w3 ⟨rfl, h3, u3⟩
  replace h3 := hide h3
  replace u3 := hide u3
  go_wp2
  refine bodyPost_ret (v := .tuple #[]) (by simp [results, Tryz.results83, go_sem]) rfl ?_
  exact ⟨.word, _, _, rfl, h3.out, u1.out.trans u3.out, HE.out, Nat.le_trans (Nat.le_trans (Tx.aft_le _ _) (Tx.bare_le _)) hbl⟩
 have b116 := beq_eq_false_iff_ne.2 c116
 by_cases c102 : x = 102
 ·have HE := hide (HWD.out 102 [97, 108, 115, 101] (.inr (.inl rfl)) c102 (by omega))
  have HN := hide (fun w h => need_any [102, 97, 108, 115, 101] s bad off rb w h hs6 (by simp))
  subst c102
  clear k91 k123 k34 k116 k102 k110 c91 c123 c34 c116
  go_enter Tryz.func83, Tryz.ntmps83
  go_wp2_with fail
  refine HB.out.mono ?_
  rintro e w1 ⟨n1, rfl, -, h1, u1⟩
  have c0 := h1.c0
  replace h1 := hide h1
  replace u1 := hide u1
  go_wp2_with (first
   | (go_at_call 119; refine (HFI.out _).mono ?_; rintro e w2 ⟨rfl, hw⟩; replace hw := hw.symm; subst hw)
   | (go_at_call 85; fail))
  refine (HN.out _ h1.out).mono ?_
  rintro e w3 ⟨rfl, h3, u3⟩
  replace h3 := hide h3
  replace u3 := hide u3
  go_wp2
  refine bodyPost_ret (v := .tuple #[]) (by simp [results, Tryz.results83, go_sem]) rfl ?_
  exact ⟨.word, _, _, rfl, h3.out, u1.out.trans u3.out, HE.out, Nat.le_trans (Nat.le_trans (Tx.aft_le _ _) (Tx.bare_le _)) hbl⟩
 have b102 := beq_eq_false_iff_ne.2 c102
 by_cases c110 : x = 110
 ·have HE := hide (HWD.out 110 [117, 108, 108] (.inr (.inr rfl)) c110 (by omega))
  have HN := hide (fun w h => need_any [110, 117, 108, 108] s bad off rb w h hs6 (by simp))
  subst c110
  clear k91 k123 k34 k116 k102 k110 c91 c123 c34 c116 c102
  go_enter Tryz.func83, Tryz.ntmps83
  go_wp2_with fail
  refine HB.out.mono ?_
  rintro e w1 ⟨n1, rfl, -, h1, u1⟩
  have c0 := h1.c0
  replace h1 := hide h1
  replace u1 := hide u1
  go_wp2_with (first
   | (go_at_call 119; refine (HFI.out _).mono ?_; rintro e w2 ⟨rfl, hw⟩; replace hw := hw.symm; subst hw)
   | (go_at_call 85; fail))
  refine (HN.out _ h1.out).mono ?_
  rintro e w3 ⟨rfl, h3, u3⟩
  replace h3 := hide h3
  replace u3 := hide u3
  go_wp2
  refine bodyPost_ret (v := .tuple #[]) (by simp [results, Tryz.results83, go_sem]) rfl ?_
  exact ⟨.word, _, _, rfl, h3.out, u1.out.trans u3.out, HE.out, Nat.le_trans (Nat.le_trans (Tx.aft_le _ _) (Tx.bare_le _)) hbl⟩
 have b110 := beq_eq_false_iff_ne.2 c110
 obtain ⟨n, hn⟩ : ∃ n, n = Tx.num false s := ⟨_, rfl⟩
 have hnl : n ≤ s.length := by rw [hn]; exact Tx.num_le false s
 have HE : Hid (Js.rd d l = if n = 0 then none else some (.num (s.take n), s.drop n)) := by
  show _ = _
  rw [HLF.out, Js.leaf_rest (fun h => c116 (k116.2 h)) (fun h => c102 (k102.2 h)) (fun h => c110 (k110.2 h)) (fun h => c34 (k34.2 h)), ← hn]
 have HNL := hide (fun w => numberLength_any s w hs6)
 rw [← hn] at HNL
 clear k91 k123 k34 k116 k102 k110 c91 c123 c34 c116 c102 c110 hn
 by_cases h0 : n = 0
 ·subst h0
  go_enter Tryz.func83, Tryz.ntmps83
  go_wp2_with fail
  refine HB.out.mono ?_
  rintro e w1 ⟨n1, rfl, -, h1, u1⟩
  have c0 := h1.c0
  replace h1 := hide h1
  replace u1 := hide u1
  go_wp2_with (first
   | (go_at_call 119; refine (HFI.out _).mono ?_; rintro e w2 ⟨rfl, hw⟩; replace hw := hw.symm; subst hw)
   | (go_at_call 122; refine (HNL.out _).mono ?_; rintro e w2 ⟨rfl, hw⟩; replace hw := hw.symm; subst hw)
   | (go_at_call 123; fail))
  refine (number_bad s bad off rb _ h1.out).mono ?_
  rintro e w3 ⟨rfl, h3, u3⟩
  replace h3 := hide h3
  replace u3 := hide u3
  go_wp2
  refine bodyPost_ret (v := .tuple #[]) (by simp [results, Tryz.results83, go_sem]) rfl ?_
  exact ⟨.nil, s, true, rfl, h3.out, u1.out.trans u3.out, by rw [HE.out]; cases bad <;> rfl, hbl⟩
 ·have hpos : 0 < n := by omega
  rw [if_neg h0] at HE
  clear h0
  go_enter Tryz.func83, Tryz.ntmps83
  go_wp2_with fail
  refine HB.out.mono ?_
  rintro e w1 ⟨n1, rfl, -, h1, u1⟩
  have c0 := h1.c0
  replace h1 := hide h1
  replace u1 := hide u1
  go_wp2_with (first
   | (go_at_call 119; refine (HFI.out _).mono ?_; rintro e w2 ⟨rfl, hw⟩; replace hw := hw.symm; subst hw)
   | (go_at_call 122; refine (HNL.out _).mono ?_; rintro e w2 ⟨rfl, hw⟩; replace hw := hw.symm; subst hw)
   | (go_at_call 123; fail))
  refine (number_ok s n bad off rb _ h1.out hs6 hpos hnl).mono ?_
  rintro e w3 ⟨rfl, h3, u3⟩
  replace h3 := hide h3
  replace u3 := hide u3
  go_wp2
  refine bodyPost_ret (v := .tuple #[]) (by simp [results, Tryz.results83, go_sem]) rfl ?_
  exact ⟨.num (s.take n), s.drop n, bad, rfl, h3.out, u1.out.trans u3.out, by rw [HE.out], by rw [List.length_drop]; omega⟩
theorem value_any : ∀ d : Nat, d ≤ 16 → ValAt d
  | 0, _ => value_of 0 (fun l bad off rb w hr _ => list_zero l bad off rb w hr) (fun l bad off rb w hr _ => object_zero l bad off rb w hr)
  | d + 1, h => by
    have ih := value_any d (by omega)
    refine value_of (d + 1) (fun l bad off rb w hr hl => ?_) (fun l bad off rb w hr hl => ?_)
    · exact list_succ d (by omega) ih l bad off rb w hr hl
    · exact object_succ d (by omega) ih l bad off rb w hr hl
def JCooPost (l : List UInt8) (bad off : Bool) (rb : Nat) (w : World) (e : Ending) (w' : World) : Prop :=
 ∃ (x : Int) (l' : List UInt8) (bad' off' : Bool), e = .returned (.int .i64 x) ∧ RT w' rb l' bad' off' ∧ Fr (· = rb) w w' ∧ (if bad = true then none else Wt.coord false l off) = (if bad' = true then none else some (x, l', off')) ∧ l'.length ≤ l.length
set_option maxRecDepth 100000 in
set_option maxHeartbeats 4000000 in
theorem jcoo_any (l : List UInt8) (n : Nat) (HN : Hid (n = Tx.num false l)) (HBB : Hid (Tx.bare l = l)) (bad off : Bool) (rb : Nat) (w : World) (hr : RT w rb l bad off) (hl : l.length ≤ 6000) (hnl : n ≤ l.length) :
  Calls Tryz.prog 163 #[.pointer (some ⟨rb, 0, none⟩), .int .i64 n] w (JCooPost l bad off rb w) := by
 have HR := hide hr
 clear hr
 by_cases h0 : n = 0
 ·subst h0
  have HE := hide (Wt.coord_none (p := false) (l := l) (o := off) (by rw [HBB.out, ← HN.out]))
  go_enter Tryz.func163, Tryz.ntmps163
  go_wp2_with fail
  refine (number_bad l bad off rb _ HR.out).mono ?_
  rintro e w1 ⟨rfl, h1, u1⟩
  replace h1 := hide h1
  replace u1 := hide u1
  go_wp2_with fail
  refine (unitsNil _).mono ?_
  rintro e w2 ⟨rfl, u2⟩
  replace u2 := hide u2
  go_wp2
  go_ret
  exact ⟨0, l, true, off, rfl, VRow.of_block h1.out (u2.out.block _ (VRow.lt h1.out)), u1.out.trans (Fr.of_up u2.out), by cases bad <;> simp [HE.out], Nat.le_refl _⟩
 ·have HE := hide (Wt.coord_some (p := false) (l := l) (o := off) (by rw [HBB.out, ← HN.out]; exact h0))
  rw [HBB.out, ← HN.out] at HE
  have HSh : Hid (Du.Shape (l.take n)) := by
   rw [HN.out]
   exact Du.num_shape (by rw [← HN.out]; omega)
  have hsl : (l.take n).length ≤ 6000 := by rw [List.length_take]; omega
  have HUV := hide (Wt.unitsV_eq (l.take n))
  obtain ⟨x, hx⟩ : ∃ x, x = Wt.cv (l.take n) := ⟨_, rfl⟩
  obtain ⟨ok, hok⟩ : ∃ ok, ok = (Du.units (l.take n)).isNone := ⟨_, rfl⟩
  rw [← hx, ← hok] at HUV HE
  have hpos : 0 < n := by omega
  clear hx hok h0
  cases ok
  ·go_enter Tryz.func163, Tryz.ntmps163
   go_wp2_with fail
   refine (number_ok l n bad off rb _ HR.out hl hpos hnl).mono ?_
   rintro e w1 ⟨rfl, h1, u1⟩
   replace h1 := hide h1
   replace u1 := hide u1
   go_wp2_with fail
   refine (pUnits_any _ HSh.out hsl _).mono ?_
   rintro e w2 ⟨rfl, u2⟩
   rw [HUV.out]
   replace u2 := hide u2
   go_wp2
   go_ret
   exact ⟨x, l.drop n, bad, off, rfl, VRow.of_block h1.out (u2.out.block _ (VRow.lt h1.out)), u1.out.trans (Fr.of_up u2.out), by cases bad <;> simp [HE.out], by simp⟩
  ·go_enter Tryz.func163, Tryz.ntmps163
   go_wp2_with fail
   refine (number_ok l n bad off rb _ HR.out hl hpos hnl).mono ?_
   rintro e w1 ⟨rfl, h1, u1⟩
   replace h1 := hide h1
   replace u1 := hide u1
   go_wp2_with fail
   refine (pUnits_any _ HSh.out hsl _).mono ?_
   rintro e w2 ⟨rfl, u2⟩
   rw [HUV.out]
   have h2 : RT w2 rb (l.drop n) bad off := VRow.of_block h1.out (u2.block _ (VRow.lt h1.out))
   obtain ⟨-, -, d2, -, -, g2⟩ := h2.facts
   replace h2 := hide h2
   replace u2 := hide u2
   go_wp2
   go_ret
   exact ⟨x, l.drop n, bad, true, rfl, h2.out.off true, (u1.out.trans (Fr.of_up u2.out)).setCell (p := ⟨rb, 2, none⟩) rfl _, by cases bad <;> simp [HE.out], by simp⟩
set_option maxRecDepth 100000 in
set_option maxHeartbeats 4000000 in
theorem jcoordinate_any (l : List UInt8) (bad off : Bool) (rb : Nat) (w : World) (hr : RT w rb l bad off) (hl : l.length ≤ 6000) :
  Calls Tryz.prog 160 #[.pointer (some ⟨rb, 0, none⟩)] w (JCooPost l bad off rb w) := by
 have HB := hide (blanks_any l bad off rb w hr hl)
 have hbl := Tx.bare_le l
 have HCB := hide (Js.coord_bare false l off)
 have HBB := hide (Tx.bare_bare l)
 obtain ⟨s, hs⟩ : ∃ s, s = Tx.bare l := ⟨_, rfl⟩
 rw [← hs] at HB hbl HCB HBB
 have hs6 : s.length ≤ 6000 := by omega
 obtain ⟨n, hn⟩ : ∃ n, n = Tx.num false s := ⟨_, rfl⟩
 have hnl : n ≤ s.length := by rw [hn]; exact Tx.num_le false s
 have HN := hide hn
 have HNL := hide (fun w => numberLength_any s w hs6)
 rw [← hn] at HNL
 clear hs hn hr
 go_enter Tryz.func160, Tryz.ntmps160
 go_wp2_with fail
 refine HB.out.mono ?_
 rintro e w1 ⟨n1, rfl, -, h1, u1⟩
 have c0 := h1.c0
 replace h1 := hide h1
 replace u1 := hide u1
 go_wp2_with (first
  | (go_at_call 122; refine (HNL.out _).mono ?_; rintro e w2 ⟨rfl, hw⟩; replace hw := hw.symm; subst hw)
  | (go_at_call 163; fail))
 refine (jcoo_any s n HN HBB bad off rb _ h1.out hs6 hnl).mono ?_
 rintro e w3 ⟨x, l3, b3, o3, rfl, h3, u3, p3, hl3⟩
 rw [HCB.out] at p3
 replace h3 := hide h3
 replace u3 := hide u3
 replace p3 := hide p3
 go_wp2
 go_ret
 exact ⟨x, l3, b3, o3, rfl, h3.out, u1.out.trans u3.out, p3.out, by omega⟩
theorem Js.pt_of {l lx ly : List UInt8} {o ox oy bad b1 b2 b3 b4 b5 : Bool} {x y : Int} (h1 : b1 = (bad || !Tx.pre [91] (Tx.bare l))) (p2 : (if b1 = true then none else Wt.coord false (Tx.aft [91] (Tx.bare l)) o) = (if b2 = true then none else some (x, lx, ox))) (h3 : b3 = (b2 || !Tx.pre [44] (Tx.bare lx)))
  (p4 : (if b3 = true then none else Wt.coord false (Tx.aft [44] (Tx.bare lx)) ox) = (if b4 = true then none else some (y, ly, oy))) (h5 : b5 = (b4 || !Tx.pre [93] (Tx.bare ly))) :
  (if bad = true then none else Js.pt l o) = (if b5 = true then none else some ((x, y), Tx.aft [93] (Tx.bare ly), oy)) := by
 unfold Js.pt
 subst h1 h3 h5
 cases bad
 ·simp only [Bool.false_or, Bool.false_eq_true, if_false] at p2 ⊢
  cases hp : Tx.pre [91] (Tx.bare l)
  ·simp only [hp, Bool.not_false, if_true, Bool.false_eq_true, if_false] at p2 ⊢
   cases b2
   ·cases p2
   ·simp at p4
    cases b4
    ·cases p4
    ·simp
  ·simp only [hp, Bool.not_true, Bool.false_eq_true, if_false, if_true] at p2 ⊢
   rw [p2]
   cases b2
   ·simp only [Bool.false_eq_true, if_false, Option.bind_some, Bool.false_or] at p4 ⊢
    cases hp2 : Tx.pre [44] (Tx.bare lx)
    ·simp only [hp2, Bool.not_false, if_true] at p4
     cases b4
     ·cases p4
     ·simp
    ·simp only [hp2, Bool.not_true, Bool.false_eq_true, if_false, if_true] at p4 ⊢
     rw [p4]
     cases b4
     ·simp only [Bool.false_eq_true, if_false, Option.bind_some, Bool.false_or]
      cases Tx.pre [93] (Tx.bare ly) <;> simp
     ·simp
   ·simp at p4
    cases b4
    ·cases p4
    ·simp
 ·simp only [Bool.true_or, if_true] at p2 ⊢
  cases b2
  ·cases p2
  ·simp at p4
   cases b4
   ·cases p4
   ·simp
theorem ret_jpt {a : Act} {W : World} {Q : Ending → World → Prop} {b : Nat} {v0 v1 : Value} (h4 : a.tmps.getD 2 undef = .pointer (some ⟨b, 0, none⟩)) (hd : a.defers = []) (hrow : VRow W b 48 [v0, v1])
  (hQ : Q (.returned (.agg #[v0, v1])) W) : bodyPost Tryz.prog Tryz.f154 Q .ret a W := by
 refine bodyPost_ret (v := .agg #[v0, v1]) ?_ hd hQ
 rw [results_cell Tryz.results154, h4]
 simp only [asAddr, Sem.run_pure, Result.andThen_ok]
 exact load_pt hrow
def JPtPost (l : List UInt8) (bad off : Bool) (rb : Nat) (w : World) (e : Ending) (w' : World) : Prop :=
 ∃ (x y : Int) (l' : List UInt8) (bad' off' : Bool), e = .returned (.agg #[.int .i64 x, .int .i64 y]) ∧ RT w' rb l' bad' off' ∧ Fr (· = rb) w w' ∧ ((if bad = true then none else Js.pt l off) = (if bad' = true then none else some ((x, y), l', off')) ∧ (bad' = false → l'.length + 1 ≤ l.length)) ∧ l'.length ≤ 6000
set_option maxRecDepth 100000 in
set_option maxHeartbeats 4000000 in
theorem jpoint_any (l : List UInt8) (bad off : Bool) (rb : Nat) (w : World) (hr : RT w rb l bad off) (hl : l.length ≤ 6000) :
  Calls Tryz.prog 154 #[.pointer (some ⟨rb, 0, none⟩)] w (JPtPost l bad off rb w) := by
 have HRA : Hid (RT (w.alloc (.cells #[.int .i64 0, .int .i64 0] 48)) rb l bad off) := VRow.alloc hr _
 have hrl := hide (VRow.lt hr)
 have HV := hide (VRow.new w [.int .i64 0, .int .i64 0] 48)
 clear hr
 have hle1 : (Tx.aft [91] (Tx.bare l)).length ≤ l.length := Nat.le_trans (Tx.aft_le _ _) (Tx.bare_le l)
 go_enter Tryz.func154, Tryz.ntmps154
 go_wp2_with fail
 refine (need_any [91] l bad off rb _ HRA.out hl (by simp)).mono ?_
 rintro e w1 ⟨rfl, h1, u1⟩
 obtain ⟨b1, hb1⟩ : ∃ b, b = (bad || !Tx.pre [91] (Tx.bare l)) := ⟨_, rfl⟩
 obtain ⟨l1, hl1⟩ : ∃ t, t = Tx.aft [91] (Tx.bare l) := ⟨_, rfl⟩
 rw [← hb1, ← hl1] at h1
 rw [← hl1] at hle1
 rw [← hb1]
 have HB1 := hide hb1
 have HL1 := hide hl1
 replace h1 := hide h1
 replace u1 := hide u1
 clear hb1 hl1
 go_wp2_with fail
 refine (jcoordinate_any l1 b1 off rb _ h1.out (by omega)).mono ?_
 rintro e w2 ⟨x, lx, b2, ox, rfl, h2, u2, p2, hl2⟩
 have hlx : lx.length ≤ 6000 := by omega
 have hle3 : (Tx.aft [44] (Tx.bare lx)).length ≤ lx.length := Nat.le_trans (Tx.aft_le _ _) (Tx.bare_le lx)
 replace h2 := hide h2
 replace u2 := hide u2
 replace p2 := hide p2
 go_wp2_with fail
 refine (need_any [44] lx b2 ox rb _ h2.out hlx (by simp)).mono ?_
 rintro e w3 ⟨rfl, h3, u3⟩
 obtain ⟨b3, hb3⟩ : ∃ b, b = (b2 || !Tx.pre [44] (Tx.bare lx)) := ⟨_, rfl⟩
 obtain ⟨l3, hl3⟩ : ∃ t, t = Tx.aft [44] (Tx.bare lx) := ⟨_, rfl⟩
 rw [← hb3, ← hl3] at h3
 rw [← hl3] at hle3
 rw [← hb3]
 have HB3 := hide hb3
 have HL3 := hide hl3
 replace h3 := hide h3
 replace u3 := hide u3
 clear hb3 hl3
 go_wp2_with fail
 refine (jcoordinate_any l3 b3 ox rb _ h3.out (by omega)).mono ?_
 rintro e w4 ⟨y, ly, b4, oy, rfl, h4, u4, p4, hl4⟩
 have hly : ly.length ≤ 6000 := by omega
 have hle5 : (Tx.aft [93] (Tx.bare ly)).length ≤ ly.length := Nat.le_trans (Tx.aft_le _ _) (Tx.bare_le ly)
 replace h4 := hide h4
 replace u4 := hide u4
 replace p4 := hide p4
 go_wp2_with fail
 refine (need_any [93] ly b4 oy rb _ h4.out hly (by simp)).mono ?_
 rintro e w5 ⟨rfl, h5, u5⟩
 have HP : Hid ((if bad = true then none else Js.pt l off) = (if (b4 || !Tx.pre [93] (Tx.bare ly)) = true then none else some ((x, y), Tx.aft [93] (Tx.bare ly), oy))) := by
  have q2 := p2.out
  have q4 := p4.out
  rw [HL1.out] at q2
  rw [HL3.out] at q4
  exact Js.pt_of HB1.out q2 HB3.out q4 rfl
 obtain ⟨b5, hb5⟩ : ∃ b, b = (b4 || !Tx.pre [93] (Tx.bare ly)) := ⟨_, rfl⟩
 obtain ⟨l5, hl5⟩ : ∃ t, t = Tx.aft [93] (Tx.bare ly) := ⟨_, rfl⟩
 rw [← hb5, ← hl5] at h5 HP
 rw [← hl5] at hle5
 rw [← hb5]
 have HF : Hid (Fr (· = rb) (w.alloc (.cells #[.int .i64 0, .int .i64 0] 48)) w5) := (((u1.out.trans u2.out).trans u3.out).trans u4.out).trans u5
 have hne : w.heap.size ≠ rb := by have := hrl.out; omega
 have hv4 := HF.out.row HV.out hne
 have v0 := hv4.cell (i := 0) rfl
 have v1 := hv4.cell (i := 1) rfl
 have g0 := hv4.frozen 0
 have g1 := hv4.frozen 1
 have HV4 := hide hv4
 replace h5 := hide h5
 clear u5 hv4 hb5 hl5
 go_wp2
 refine ret_jpt rfl rfl ((HV4.out.set 0 _).set 1 _) ⟨x, y, l5, b5, oy, rfl, VRow.setOther (VRow.setOther h5.out (a := ⟨w.heap.size, 0, none⟩) (fun e => hne e.symm) _) (a := ⟨w.heap.size, 1, none⟩) (fun e => hne e.symm) _, (((Fr.of_up ((Up.refl w).alloc _)).trans HF.out).setNew (p := ⟨w.heap.size, 0, none⟩) (Nat.le_refl _) _).setNew (p := ⟨w.heap.size, 1, none⟩) (Nat.le_refl _) _, ⟨HP.out, fun e => ?_⟩, by omega⟩
 have h := HP.out
 rw [e] at h
 cases bad
 ·exact (Js.pt_lt h).1
 ·simp at h
def jRgPost (l : List UInt8) (bad0 off0 : Bool) (rb : Nat) (w : World) (e : Ending) (w' : World) : Prop :=
 ∃ (x : L1) (l' : List UInt8) (bad off : Bool), e = .returned x.v ∧ x.ok w' ∧ RT w' rb l' bad off ∧ Fr (· = rb) w w' ∧ (if bad0 = true then none else Js.ring l off0) = (if bad = true then none else some (x.r, l', off)) ∧ l'.length ≤ 6000
set_option maxRecDepth 100000 in
set_option maxHeartbeats 4000000 in
theorem jRg_any (l : List UInt8) (bad0 off0 : Bool) (rb : Nat) (w : World) (hr : RT w rb l bad0 off0) (hl : l.length ≤ 6000) :
  Calls Tryz.prog 144 #[.pointer (some ⟨rb, 0, none⟩)] w (jRgPost l bad0 off0 rb w) := by
 have HR := hide hr
 clear hr
 go_enter Tryz.func144, Tryz.ntmps144
 go_wp2_with fail
 refine (begin_any 91 93 l bad0 off0 rb _ HR.out hl).mono ?_
 rintro e w1 ⟨l1, b1, more1, rfl, h1, u1, hl1, hm1, hm2⟩
 have HT1 := hide (fun h => And.intro (hm1 h).1 (And.intro (hm1 h).2.1 ((hm1 h).2.2.1 _ Js.pt off0)))
 have HT2 := hide (fun h => (hm2 h).1 _ Js.pt off0)
 have HQ := hide (P1.start h1 (Nat.le_trans hl1 hl))
 have HF1 := hide u1
 clear h1 u1 hm1 hm2
 go_wp2_with fail
 go_loopw [3, 4] (fun v mv wr => ∃ (k : Nat) (r : List Pnt) (l' : List UInt8) (bad off more : Bool) (u : Value), u = v ∧ mv = .bool more ∧ Hid (P1 w1 wr rb u r l' bad off) ∧ Hid (more = true → bad = false ∧ l'.length ≤ k ∧ (if bad0 = true then none else Js.ring l off0) = Bn.pre r (Js.items 93 Js.pt (k + 1) l' off)) ∧ Hid (more = false → (if bad0 = true then none else Js.ring l off0) = if bad = true then none else some (r, l', off))) (fun v _ _ => 7000 - lenS v)
 case atStart => exact ⟨(Tx.bare l).length, [], l1, b1, off0, more1, _, rfl, rfl, HQ, HT1.out, HT2.out⟩
 case round =>
  obtain ⟨wo, hw⟩ : ∃ x, x = wr := ⟨_, rfl⟩
  subst hw
  obtain ⟨k, r, l2, bad, off, more, v, rfl, rfl, HI, H1, H2⟩ := hrel
  have hl2 := HI.out.rest
  obtain ⟨va, vn, vc, rfl⟩ : ∃ a n c, v = .slice a n c := own_shape HI.out.own
  obtain rfl : vn = r.length := by obtain ⟨a, c, e⟩ := own_len HI.out.own; cases e; rfl
  cases more
  ·have HE := hide (H2.out rfl)
   clear H1 H2
   go_wp2
   go_ret
   exact ⟨⟨_, _⟩, l2, bad, off, rfl, own_base HI.out.own (Nat.zero_le _), HI.out.sd, HF1.out.trans HI.out.fr, HE.out, hl2⟩
  ·obtain ⟨hbf, hk, HT2⟩ := H1.out rfl
   subst hbf
   have hs6 := HI.out.sum rfl
   replace HT2 := hide HT2
   clear H1 H2
   go_wp2_with fail
   refine (jpoint_any l2 false off rb _ HI.out.sd hl2).mono ?_
   rintro e w4 ⟨x, y, l4, b4, o4, rfl, h4, u4, hp, hl4⟩
   have HP := hide hp
   obtain ⟨wA, hwA⟩ : ∃ wA, wA = w4.alloc (.cells #[.int .i64 x, .int .i64 y] 48) := ⟨_, rfl⟩
   have hnA := VRow.new w4 [.int .i64 x, .int .i64 y] 48
   have HF : Hid (Fr (· = rb) wo wA) := by rw [hwA]; exact u4.alloc _
   replace h4 : Hid (RT wA rb l4 b4 o4) := by rw [hwA]; exact VRow.alloc h4 _
   have n0 := hnA.cell (i := 0) rfl
   have n1 := hnA.cell (i := 1) rfl
   have HO : Hid (wA.ownsRow w1.heap.size 48 2 (.slice va r.length vc) r.length (flat r)) := own_fr HI.out.own HF.out fun g hg e => own_row_ne HI.out.own HI.out.sd (by decide) (e ▸ hg)
   have HOA := hide (HO.out.alloc (.cells #[.int .i64 x, .int .i64 y] 48))
   have HNW : Hid (((w4.alloc (.cells #[.int .i64 x, .int .i64 y] 48)).alloc (.cells #[.int .i64 x, .int .i64 y] 48)).heap[w4.heap.size + 1]? = some (.cells #[.int .i64 x, .int .i64 y] 48)) := by
    have := heap_alloc_new (w4.alloc (.cells #[.int .i64 x, .int .i64 y] 48)) (.cells #[.int .i64 x, .int .i64 y] 48)
    simpa [Hid] using this
   clear u4 hp hnA
   subst hwA
   have hrb : Hid (r.length ≤ 1073741824) := by show _ ≤ _; omega
   have hsz := hide (HI.out.fr.trans HF.out).size
   have HLT : Hid (b4 = false → r.length + 1 + l4.length ≤ 6000) := fun e => by
    have h7 := HP.out.2 e
    omega
   go_wp2_with (first | (at_builtin; refine wpList_app el_pt rfl (.tmp 13) (.tmp 15) rfl w1.heap.size _ _ _ (by rfl) HOA.out (w4.heap.size + 1) [.int .i64 x, .int .i64 y] (by rfl) rfl HNW.out (by intro u hu; simp at hu; rcases hu with rfl | rfl <;> rfl) hrb.out (by have := hsz.out; simp at this ⊢; omega) ?_; intro g cap w5 hown5 hg5 hat5 hlt5; have hq5 := hide (HI.out.step' (by omega) h4.out HF.out HLT.out hl4 hown5 hg5); clear hat5 hlt5 hown5 hg5) | (go_at_call 78; fail))
   have HG := Js.go_on (e := 93) (bad := false) HT2.out HP.out.1
   obtain ⟨hg1, hg2⟩ := HG
   replace hg1 := hide hg1
   replace hg2 := hide hg2
   refine (nextE_any 93 l4 b4 o4 rb _ hq5.out.sd hl4).mono ?_
   rintro e w6 ⟨l6, b6, rfl, h6, u6, hl6, hn1, hn2⟩
   obtain ⟨M, hM⟩ : ∃ M, M = (!b4 && Tx.pre [44] (Tx.bare l4)) := ⟨_, rfl⟩
   rw [← hM] at hn1 hn2 hg1 hg2 ⊢
   have hq6 := hide (hq5.out.sd' h6 u6 hl6 (more_bad hM (fun h => (hn2 h).1) ))
   replace hn1 := hide hn1
   replace hn2 := hide hn2
   have HMM := hide hM
   clear h6 u6 hM
   go_wp2
   go_roundw
   case rel =>
    refine ⟨k - 1, r ++ [(x, y)], l6, b6, o4, M, _, rfl, rfl, hq6, fun e => ?_, fun e => ?_⟩
    ·obtain ⟨a1, a2⟩ := hn1.out e
     have a3 := hg1.out e
     have a4 : b4 = false ∧ Tx.pre [44] (Tx.bare l4) = true := more_and (HMM.out.symm.trans e)
     have a5 := Wt.aft_len a4.2
     have a6 := Tx.bare_le l4
     have a7 := HP.out.2 a4.1
     rw [← a2] at a3 a5
     refine ⟨a1, by omega, ?_⟩
     rw [show k - 1 + 1 = k by omega]
     exact a3
    ·obtain ⟨a1, a2⟩ := hn2.out e
     have a3 := hg2.out e
     rw [← a1] at a3
     rw [a3]
     cases b6
     ·first
      | (rw [a2 rfl]; done)
      | (rw [a2 rfl]; rfl)
     ·rfl
   case measure => simp [lenS]; omega
def jPlPost (l : List UInt8) (bad0 off0 : Bool) (rb : Nat) (w : World) (e : Ending) (w' : World) : Prop :=
 ∃ (x : L2) (l' : List UInt8) (bad off : Bool), e = .returned x.v ∧ x.ok w' ∧ RT w' rb l' bad off ∧ Fr (· = rb) w w' ∧ (if bad0 = true then none else Js.poly l off0) = (if bad = true then none else some (x.pts, l', off)) ∧ l'.length ≤ 6000
set_option maxRecDepth 100000 in
set_option maxHeartbeats 4000000 in
theorem jPl_any (l : List UInt8) (bad0 off0 : Bool) (rb : Nat) (w : World) (hr : RT w rb l bad0 off0) (hl : l.length ≤ 6000) :
  Calls Tryz.prog 118 #[.pointer (some ⟨rb, 0, none⟩)] w (jPlPost l bad0 off0 rb w) := by
 have HR := hide hr
 clear hr
 go_enter Tryz.func118, Tryz.ntmps118
 go_wp2_with fail
 refine (begin_any 91 93 l bad0 off0 rb _ HR.out hl).mono ?_
 rintro e w1 ⟨l1, b1, more1, rfl, h1, u1, hl1, hm1, hm2⟩
 have HT1 := hide (fun h => And.intro (hm1 h).1 (And.intro (hm1 h).2.1 ((hm1 h).2.2.1 _ Js.ring off0)))
 have HT2 := hide (fun h => (hm2 h).1 _ Js.ring off0)
 have HQ := hide (P2.start h1 (Nat.le_trans hl1 hl))
 have HF1 := hide u1
 clear h1 u1 hm1 hm2
 go_wp2_with fail
 go_loopw [3, 4] (fun v mv wr => ∃ (k : Nat) (r : List L1) (l' : List UInt8) (bad off more : Bool) (u : Value), u = v ∧ mv = .bool more ∧ Hid (P2 w1 wr rb u r l' bad off) ∧ Hid (more = true → bad = false ∧ l'.length ≤ k ∧ (if bad0 = true then none else Js.poly l off0) = Bn.pre (r.map L1.r) (Js.items 93 Js.ring (k + 1) l' off)) ∧ Hid (more = false → (if bad0 = true then none else Js.poly l off0) = if bad = true then none else some ((r.map L1.r), l', off))) (fun v _ _ => 7000 - lenS v)
 case atStart => exact ⟨(Tx.bare l).length, [], l1, b1, off0, more1, _, rfl, rfl, HQ, HT1.out, HT2.out⟩
 case round =>
  obtain ⟨wo, hw⟩ : ∃ x, x = wr := ⟨_, rfl⟩
  subst hw
  obtain ⟨k, r, l2, bad, off, more, v, rfl, rfl, HI, H1, H2⟩ := hrel
  have hl2 := HI.out.rest
  obtain ⟨va, vn, vc, rfl⟩ : ∃ a n c, v = .slice a n c := own_shape HI.out.own
  obtain rfl : vn = r.length := by obtain ⟨a, c, e⟩ := own_len HI.out.own; cases e; rfl
  cases more
  ·have HE := hide (H2.out rfl)
   clear H1 H2
   go_wp2
   go_ret
   exact ⟨⟨_, _⟩, l2, bad, off, rfl, ⟨own_base HI.out.own (Nat.zero_le _), HI.out.sub⟩, HI.out.sd, HF1.out.trans HI.out.fr, HE.out, hl2⟩
  ·obtain ⟨hbf, hk, HT2⟩ := H1.out rfl
   subst hbf
   have hs6 := HI.out.sum rfl
   replace HT2 := hide HT2
   clear H1 H2
   go_wp2_with fail
   refine (jRg_any l2 false off rb _ HI.out.sd hl2).mono ?_
   rintro e w4 ⟨⟨xv, xr⟩, l4, b4, o4, rfl, hx, h4, u4, p4, hl4⟩
   obtain ⟨xa, xn, xc, rfl⟩ : ∃ a n c, xv = .slice a n c := own_shape hx
   have HP : Hid ((if false = true then none else Js.ring l2 off) = (if b4 = true then none else some (xr, l4, o4)) ∧ (b4 = false → l4.length + 1 ≤ l2.length)) := by
    refine ⟨p4, fun e => ?_⟩
    rw [e] at p4
    exact (Js.ring_lt p4).1
   have HF : Hid (Fr (· = rb) wo w4) := u4
   have HO : Hid (w4.ownsRow w1.heap.size 46 1 (.slice va r.length vc) r.length (r.map L1.v)) := own_fr HI.out.own HF.out fun g hg e => own_row_ne HI.out.own HI.out.sd (by decide) (e ▸ hg)
   have HOA := hide (HO.out.alloc (.cells #[.slice xa xn xc] 46))
   have HX := hide hx
   replace h4 := hide h4
   clear u4 p4 hx
   have hrb : Hid (r.length ≤ 1073741824) := by show _ ≤ _; omega
   have hsz := hide (HI.out.fr.trans HF.out).size
   have HLT : Hid (b4 = false → r.length + 1 + l4.length ≤ 6000) := fun e => by
    have h7 := HP.out.2 e
    omega
   go_wp2_with (first | (at_builtin; refine wpList_app el_rings rfl (.tmp 13) (.tmp 15) rfl w1.heap.size _ _ _ (by rfl) HOA.out _ [.slice xa xn xc] (by rfl) rfl (heap_alloc_new _ _) (by intro u hu; simp at hu; subst hu; rfl) hrb.out (by have := hsz.out; simp at this ⊢; omega) ?_; intro g cap w5 hown5 hg5 hat5 hlt5; have hq5 := hide (HI.out.step' (by omega) h4.out HF.out HX.out HLT.out hl4 hown5 hg5); clear hat5 hlt5 hown5 hg5) | (go_at_call 78; fail))
   have HG := Js.go_on (e := 93) (bad := false) HT2.out HP.out.1
   obtain ⟨hg1, hg2⟩ := HG
   replace hg1 := hide hg1
   replace hg2 := hide hg2
   refine (nextE_any 93 l4 b4 o4 rb _ hq5.out.sd hl4).mono ?_
   rintro e w6 ⟨l6, b6, rfl, h6, u6, hl6, hn1, hn2⟩
   obtain ⟨M, hM⟩ : ∃ M, M = (!b4 && Tx.pre [44] (Tx.bare l4)) := ⟨_, rfl⟩
   rw [← hM] at hn1 hn2 hg1 hg2 ⊢
   have hq6 := hide (hq5.out.sd' h6 u6 hl6 (more_bad hM (fun h => (hn2 h).1) ))
   replace hn1 := hide hn1
   replace hn2 := hide hn2
   have HMM := hide hM
   clear h6 u6 hM
   go_wp2
   go_roundw
   case rel =>
    refine ⟨k - 1, r ++ [(⟨.slice xa xn xc, xr⟩ : L1)], l6, b6, o4, M, _, rfl, rfl, hq6, fun e => ?_, fun e => ?_⟩
    ·obtain ⟨a1, a2⟩ := hn1.out e
     have a3 := hg1.out e
     have a4 : b4 = false ∧ Tx.pre [44] (Tx.bare l4) = true := more_and (HMM.out.symm.trans e)
     have a5 := Wt.aft_len a4.2
     have a6 := Tx.bare_le l4
     have a7 := HP.out.2 a4.1
     rw [← a2] at a3 a5
     refine ⟨a1, by omega, ?_⟩
     rw [show k - 1 + 1 = k by omega, List.map_append]
     exact a3
    ·obtain ⟨a1, a2⟩ := hn2.out e
     have a3 := hg2.out e
     rw [← a1] at a3
     rw [a3, List.map_append]
     cases b6
     ·first
      | (rw [a2 rfl]; done)
      | (rw [a2 rfl]; rfl)
     ·rfl
   case measure => simp [lenS]; omega
def jPlsPost (l : List UInt8) (bad0 off0 : Bool) (rb : Nat) (w : World) (e : Ending) (w' : World) : Prop :=
 ∃ (x : L3) (l' : List UInt8) (bad off : Bool), e = .returned x.v ∧ x.ok w' ∧ RT w' rb l' bad off ∧ Fr (· = rb) w w' ∧ (if bad0 = true then none else Js.polys l off0) = (if bad = true then none else some (x.m, l', off)) ∧ l'.length ≤ 6000
set_option maxRecDepth 100000 in
set_option maxHeartbeats 4000000 in
theorem jPls_any (l : List UInt8) (bad0 off0 : Bool) (rb : Nat) (w : World) (hr : RT w rb l bad0 off0) (hl : l.length ≤ 6000) :
  Calls Tryz.prog 82 #[.pointer (some ⟨rb, 0, none⟩)] w (jPlsPost l bad0 off0 rb w) := by
 have HR := hide hr
 clear hr
 go_enter Tryz.func82, Tryz.ntmps82
 go_wp2_with fail
 refine (begin_any 91 93 l bad0 off0 rb _ HR.out hl).mono ?_
 rintro e w1 ⟨l1, b1, more1, rfl, h1, u1, hl1, hm1, hm2⟩
 have HT1 := hide (fun h => And.intro (hm1 h).1 (And.intro (hm1 h).2.1 ((hm1 h).2.2.1 _ Js.poly off0)))
 have HT2 := hide (fun h => (hm2 h).1 _ Js.poly off0)
 have HQ := hide (P3.start h1 (Nat.le_trans hl1 hl))
 have HF1 := hide u1
 clear h1 u1 hm1 hm2
 go_wp2_with fail
 go_loopw [3, 4] (fun v mv wr => ∃ (k : Nat) (r : List L2) (l' : List UInt8) (bad off more : Bool) (u : Value), u = v ∧ mv = .bool more ∧ Hid (P3 w1 wr rb u r l' bad off) ∧ Hid (more = true → bad = false ∧ l'.length ≤ k ∧ (if bad0 = true then none else Js.polys l off0) = Bn.pre (r.map L2.pts) (Js.items 93 Js.poly (k + 1) l' off)) ∧ Hid (more = false → (if bad0 = true then none else Js.polys l off0) = if bad = true then none else some ((r.map L2.pts), l', off))) (fun v _ _ => 7000 - lenS v)
 case atStart => exact ⟨(Tx.bare l).length, [], l1, b1, off0, more1, _, rfl, rfl, HQ, HT1.out, HT2.out⟩
 case round =>
  obtain ⟨wo, hw⟩ : ∃ x, x = wr := ⟨_, rfl⟩
  subst hw
  obtain ⟨k, r, l2, bad, off, more, v, rfl, rfl, HI, H1, H2⟩ := hrel
  have hl2 := HI.out.rest
  obtain ⟨va, vn, vc, rfl⟩ : ∃ a n c, v = .slice a n c := own_shape HI.out.own
  obtain rfl : vn = r.length := by obtain ⟨a, c, e⟩ := own_len HI.out.own; cases e; rfl
  cases more
  ·have HE := hide (H2.out rfl)
   clear H1 H2
   go_wp2
   go_ret
   exact ⟨⟨_, _⟩, l2, bad, off, rfl, ⟨own_base HI.out.own (Nat.zero_le _), HI.out.sub⟩, HI.out.sd, HF1.out.trans HI.out.fr, HE.out, hl2⟩
  ·obtain ⟨hbf, hk, HT2⟩ := H1.out rfl
   subst hbf
   have hs6 := HI.out.sum rfl
   replace HT2 := hide HT2
   clear H1 H2
   go_wp2_with fail
   refine (jPl_any l2 false off rb _ HI.out.sd hl2).mono ?_
   rintro e w4 ⟨⟨xv, xr⟩, l4, b4, o4, rfl, hx, h4, u4, p4, hl4⟩
   obtain ⟨xa, xn, xc, rfl⟩ : ∃ a n c, xv = .slice a n c := own_shape hx.row
   have HP : Hid ((if false = true then none else Js.poly l2 off) = (if b4 = true then none else some (L2.pts ⟨.slice xa xn xc, xr⟩, l4, o4)) ∧ (b4 = false → l4.length + 1 ≤ l2.length)) := by
    refine ⟨p4, fun e => ?_⟩
    rw [e] at p4
    exact (Js.poly_lt p4).1
   have HF : Hid (Fr (· = rb) wo w4) := u4
   have HO : Hid (w4.ownsRow w1.heap.size 45 1 (.slice va r.length vc) r.length (r.map L2.v)) := own_fr HI.out.own HF.out fun g hg e => own_row_ne HI.out.own HI.out.sd (by decide) (e ▸ hg)
   have HOA := hide (HO.out.alloc (.cells #[.slice xa xn xc] 45))
   have HX := hide hx
   replace h4 := hide h4
   clear u4 p4 hx
   have hrb : Hid (r.length ≤ 1073741824) := by show _ ≤ _; omega
   have hsz := hide (HI.out.fr.trans HF.out).size
   have HLT : Hid (b4 = false → r.length + 1 + l4.length ≤ 6000) := fun e => by
    have h7 := HP.out.2 e
    omega
   go_wp2_with (first | (at_builtin; refine wpList_app el_polys rfl (.tmp 13) (.tmp 15) rfl w1.heap.size _ _ _ (by rfl) HOA.out _ [.slice xa xn xc] (by rfl) rfl (heap_alloc_new _ _) (by intro u hu; simp at hu; subst hu; rfl) hrb.out (by have := hsz.out; simp at this ⊢; omega) ?_; intro g cap w5 hown5 hg5 hat5 hlt5; have hq5 := hide (HI.out.step' (by omega) h4.out HF.out HX.out HLT.out hl4 hown5 hg5); clear hat5 hlt5 hown5 hg5) | (go_at_call 78; fail))
   have HG := Js.go_on (e := 93) (bad := false) HT2.out HP.out.1
   obtain ⟨hg1, hg2⟩ := HG
   replace hg1 := hide hg1
   replace hg2 := hide hg2
   refine (nextE_any 93 l4 b4 o4 rb _ hq5.out.sd hl4).mono ?_
   rintro e w6 ⟨l6, b6, rfl, h6, u6, hl6, hn1, hn2⟩
   obtain ⟨M, hM⟩ : ∃ M, M = (!b4 && Tx.pre [44] (Tx.bare l4)) := ⟨_, rfl⟩
   rw [← hM] at hn1 hn2 hg1 hg2 ⊢
   have hq6 := hide (hq5.out.sd' h6 u6 hl6 (more_bad hM (fun h => (hn2 h).1) ))
   replace hn1 := hide hn1
   replace hn2 := hide hn2
   have HMM := hide hM
   clear h6 u6 hM
   go_wp2
   go_roundw
   case rel =>
    refine ⟨k - 1, r ++ [(⟨.slice xa xn xc, xr⟩ : L2)], l6, b6, o4, M, _, rfl, rfl, hq6, fun e => ?_, fun e => ?_⟩
    ·obtain ⟨a1, a2⟩ := hn1.out e
     have a3 := hg1.out e
     have a4 : b4 = false ∧ Tx.pre [44] (Tx.bare l4) = true := more_and (HMM.out.symm.trans e)
     have a5 := Wt.aft_len a4.2
     have a6 := Tx.bare_le l4
     have a7 := HP.out.2 a4.1
     rw [← a2] at a3 a5
     refine ⟨a1, by omega, ?_⟩
     rw [show k - 1 + 1 = k by omega, List.map_append]
     exact a3
    ·obtain ⟨a1, a2⟩ := hn2.out e
     have a3 := hg2.out e
     rw [← a1] at a3
     rw [a3, List.map_append]
     cases b6
     ·first
      | (rw [a2 rfl]; done)
      | (rw [a2 rfl]; rfl)
     ·rfl
   case measure => simp [lenS]; omega
def pPlPost (l : List UInt8) (bad0 off0 : Bool) (rb : Nat) (w : World) (e : Ending) (w' : World) : Prop :=
 ∃ (x : L2) (l' : List UInt8) (bad off : Bool), e = .returned x.v ∧ x.ok w' ∧ RT w' rb l' bad off ∧ Fr (· = rb) w w' ∧ (if bad0 = true then none else Wt.poly l off0) = (if bad = true then none else some (x.pts, l', off)) ∧ l'.length ≤ 6000
set_option maxRecDepth 100000 in
set_option maxHeartbeats 4000000 in
theorem pPl_any (l : List UInt8) (bad0 off0 : Bool) (rb : Nat) (w : World) (hr : RT w rb l bad0 off0) (hl : l.length ≤ 6000) :
  Calls Tryz.prog 125 #[.pointer (some ⟨rb, 0, none⟩)] w (pPlPost l bad0 off0 rb w) := by
 have HR := hide hr
 clear hr
 go_enter Tryz.func125, Tryz.ntmps125
 go_wp2_with fail
 refine (need_any [40] l bad0 off0 rb _ HR.out hl (by simp)).mono ?_
 rintro e w1 ⟨rfl, h1, u1⟩
 have HT := hide (Wt.begin_ Wt.ring l off0 bad0)
 have hl1 : (Tx.aft [40] (Tx.bare l)).length ≤ l.length := Nat.le_trans (Tx.aft_le _ _) (Tx.bare_le l)
 obtain ⟨l1, hl1e⟩ : ∃ l1, l1 = Tx.aft [40] (Tx.bare l) := ⟨_, rfl⟩
 obtain ⟨b1, hb1e⟩ : ∃ b1, b1 = (bad0 || !Tx.pre [40] (Tx.bare l)) := ⟨_, rfl⟩
 rw [← hl1e, ← hb1e] at h1 HT
 have hl1b : (Tx.aft [40] (Tx.bare l)).length ≤ (Tx.bare l).length := Tx.aft_le _ _
 rw [← hl1e] at hl1 hl1b
 rw [← hb1e]
 have HQ := hide (P2.start h1 (Nat.le_trans hl1 hl))
 have HF1 := hide u1
 clear h1 u1 hl1e hb1e
 go_wp2_with fail
 go_loopw [3, 4] (fun v mv wr => ∃ (k : Nat) (r : List L1) (l' : List UInt8) (bad off more : Bool) (u : Value), u = v ∧ mv = .bool more ∧ Hid (P2 w1 wr rb u r l' bad off) ∧ Hid (more = true → bad = false ∧ l'.length ≤ k ∧ (if bad0 = true then none else Wt.poly l off0) = Bn.pre (r.map L1.r) (Wt.items Wt.ring (k + 1) l' off)) ∧ Hid (more = false → (if bad0 = true then none else Wt.poly l off0) = if bad = true then none else some ((r.map L1.r), l', off))) (fun v _ _ => 7000 - lenS v)
 case atStart =>
  refine ⟨(Tx.bare l).length, [], l1, b1, off0, !b1, _, rfl, rfl, HQ, fun e => ?_, fun e => ?_⟩
  ·have e1 : b1 = false := by simpa using e
   refine ⟨e1, hl1b, ?_⟩
   exact HT.out.trans (by rw [e1]; rfl)
  ·have e1 : b1 = true := by simpa using e
   exact HT.out.trans (by rw [e1]; rfl)
 case round =>
  obtain ⟨wo, hw⟩ : ∃ x, x = wr := ⟨_, rfl⟩
  subst hw
  obtain ⟨k, r, l2, bad, off, more, v, rfl, rfl, HI, H1, H2⟩ := hrel
  have hl2 := HI.out.rest
  obtain ⟨va, vn, vc, rfl⟩ : ∃ a n c, v = .slice a n c := own_shape HI.out.own
  obtain rfl : vn = r.length := by obtain ⟨a, c, e⟩ := own_len HI.out.own; cases e; rfl
  cases more
  ·have HE := hide (H2.out rfl)
   clear H1 H2
   go_wp2
   go_ret
   exact ⟨⟨_, _⟩, l2, bad, off, rfl, ⟨own_base HI.out.own (Nat.zero_le _), HI.out.sub⟩, HI.out.sd, HF1.out.trans HI.out.fr, HE.out, hl2⟩
  ·obtain ⟨hbf, hk, HT2⟩ := H1.out rfl
   subst hbf
   have hs6 := HI.out.sum rfl
   replace HT2 := hide HT2
   clear H1 H2
   go_wp2_with fail
   refine (pRg_any l2 false off rb _ HI.out.sd hl2).mono ?_
   rintro e w4 ⟨⟨xv, xr⟩, l4, b4, o4, rfl, hx, h4, u4, p4, hl4⟩
   obtain ⟨xa, xn, xc, rfl⟩ : ∃ a n c, xv = .slice a n c := own_shape hx
   have HP : Hid ((if false = true then none else Wt.ring l2 off) = (if b4 = true then none else some (xr, l4, o4)) ∧ (b4 = false → l4.length + 1 ≤ l2.length)) := by
    refine ⟨p4, fun e => ?_⟩
    rw [e] at p4
    exact (Wt.ring_lt p4).1
   have HF : Hid (Fr (· = rb) wo w4) := u4
   have HO : Hid (w4.ownsRow w1.heap.size 46 1 (.slice va r.length vc) r.length (r.map L1.v)) := own_fr HI.out.own HF.out fun g hg e => own_row_ne HI.out.own HI.out.sd (by decide) (e ▸ hg)
   have HOA := hide (HO.out.alloc (.cells #[.slice xa xn xc] 46))
   have HX := hide hx
   replace h4 := hide h4
   clear u4 p4 hx
   have hrb : Hid (r.length ≤ 1073741824) := by show _ ≤ _; omega
   have hsz := hide (HI.out.fr.trans HF.out).size
   have HLT : Hid (b4 = false → r.length + 1 + l4.length ≤ 6000) := fun e => by
    have h7 := HP.out.2 e
    omega
   go_wp2_with (first | (at_builtin; refine wpList_app el_rings rfl (.tmp 13) (.tmp 15) rfl w1.heap.size _ _ _ (by rfl) HOA.out _ [.slice xa xn xc] (by rfl) rfl (heap_alloc_new _ _) (by intro u hu; simp at hu; subst hu; rfl) hrb.out (by have := hsz.out; simp at this ⊢; omega) ?_; intro g cap w5 hown5 hg5 hat5 hlt5; have hq5 := hide (HI.out.step' (by omega) h4.out HF.out HX.out HLT.out hl4 hown5 hg5); clear hat5 hlt5 hown5 hg5) | (go_at_call 78; fail))
   have HG := Wt.go_on (bad := false) HT2.out HP.out.1
   obtain ⟨hg1, hg2⟩ := HG
   replace hg1 := hide hg1
   replace hg2 := hide hg2
   refine (next_any l4 b4 o4 rb _ hq5.out.sd hl4).mono ?_
   rintro e w6 ⟨l6, b6, rfl, h6, u6, hl6, hn1, hn2⟩
   obtain ⟨M, hM⟩ : ∃ M, M = (!b4 && Tx.pre [44] (Tx.bare l4)) := ⟨_, rfl⟩
   rw [← hM] at hn1 hn2 hg1 hg2 ⊢
   have hq6 := hide (hq5.out.sd' h6 u6 hl6 (more_bad hM (fun h => (hn2 h).1) ))
   replace hn1 := hide hn1
   replace hn2 := hide hn2
   have HMM := hide hM
   clear h6 u6 hM
   go_wp2
   go_roundw
   case rel =>
    refine ⟨k - 1, r ++ [(⟨.slice xa xn xc, xr⟩ : L1)], l6, b6, o4, M, _, rfl, rfl, hq6, fun e => ?_, fun e => ?_⟩
    ·obtain ⟨a1, a2⟩ := hn1.out e
     have a3 := hg1.out e
     have a4 : b4 = false ∧ Tx.pre [44] (Tx.bare l4) = true := more_and (HMM.out.symm.trans e)
     have a5 := Wt.aft_len a4.2
     have a6 := Tx.bare_le l4
     have a7 := HP.out.2 a4.1
     rw [← a2] at a3 a5
     refine ⟨a1, by omega, ?_⟩
     rw [show k - 1 + 1 = k by omega, List.map_append]
     exact a3
    ·obtain ⟨a1, a2⟩ := hn2.out e
     have a3 := hg2.out e
     rw [← a1] at a3
     rw [a3, List.map_append]
     cases b6
     ·first
      | (rw [a2 rfl]; done)
      | (rw [a2 rfl]; rfl)
     ·rfl
   case measure => simp [lenS]; omega
end Go.Proofs.YtcclepohmhdpbabGreatDoor
