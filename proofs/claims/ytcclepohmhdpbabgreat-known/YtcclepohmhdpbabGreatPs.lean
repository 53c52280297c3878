/- LISTS THAT THE PROGRAM READS, as they grow. -/
import Derived.Test.YtcclepohmhdpbabGreatTwB
import Derived.Test.YtcclepohmhdpbabGreatCnG
namespace Go.Proofs.YtcclepohmhdpbabGreat
set_option linter.all false
open Go.RowKit Go.Deep

theorem RT.keep {w w' : World} {b : Nat} {l : List UInt8} {bad wide : Bool} {base : Nat} {e : TypeId} {size : Nat} {v : Value} {n : Nat} {xs : List Value} (h : RT w b l bad wide) (ho : w.ownsRow base e size v n xs) (he : e ≠ 58) (hg : w.grownBy w' v.ownBlock) : RT w' b l bad wide :=
  VRow.grown h hg (own_row_ne ho h he)
theorem RT.alloc {w : World} {b : Nat} {l : List UInt8} {bad wide : Bool} (h : RT w b l bad wide) (o : Obj) : RT (w.alloc o) b l bad wide := VRow.alloc h o

/-- A list of the document's that is being read: rings. -/
structure P1 (w wr : World) (b : Nat) (v : Value) (r : Ring) (l : List UInt8) (bad wide : Bool) : Prop where
  own : wr.ownsRow w.heap.size 76 2 v r.length (flat r)
  sd : RT wr b l bad wide
  fr : Fr (· = b) w wr
  len : r.length ≤ 6001
  rest : l.length ≤ 6000
  sum : bad = false → r.length + l.length ≤ 6000

theorem P1.step {w wr w4 w5 : World} {b : Nat} {v : Value} {r : Ring} {l l4 : List UInt8} {wide b4 o4 : Bool} {x y : Int} {g cap : Nat} (h : P1 w wr b v r l false wide) (h4 : RT w4 b l4 b4 o4) (u : Fr (· = b) wr w4) (hs : b4 = false → l4.length + 1 ≤ l.length) (hl4 : l4.length ≤ 6000)
    (hown : w5.ownsRow w.heap.size 76 2 (.slice (some ⟨g, 0, none⟩) (r.length + 1) cap) (r.length + 1) (flat r ++ [.int .i64 x, .int .i64 y])) (hg : (w4.alloc (.cells #[.int .i64 x, .int .i64 y] 76)).grownBy w5 v.ownBlock) :
    P1 w w5 b (.slice (some ⟨g, 0, none⟩) (r.length + 1) cap) (r ++ [(x, y)]) l4 b4 o4 := by
  have hb := h.sd
  have o4' : w4.ownsRow w.heap.size 76 2 v r.length (flat r) := own_fr h.own u fun g hg e => own_row_ne h.own hb (by decide) (e ▸ hg)
  have oA := o4'.alloc (.cells #[.int .i64 x, .int .i64 y] 76)
  refine ⟨?_, (h4.alloc _).keep oA (by decide) hg, ((h.fr.trans u).alloc _).grown hg fun k hk => .inr (own_lt h.own hk).1, by simp; have := h.sum rfl; omega, hl4, fun e => ?_⟩
  · rw [flat_append, List.length_append]; exact hown
  · have := hs e
    have := h.sum rfl
    simp; omega

/-- Lists of lists. -/
structure P2 (w wr : World) (b : Nat) (v : Value) (rs : List L1) (l : List UInt8) (bad wide : Bool) : Prop where
  own : wr.ownsRow w.heap.size 63 1 v rs.length (rs.map L1.v)
  sub : ∀ y ∈ rs, y.ok wr
  sd : RT wr b l bad wide
  fr : Fr (· = b) w wr
  len : rs.length ≤ 6001
  rest : l.length ≤ 6000
  sum : bad = false → rs.length + l.length ≤ 6000

theorem P2.step {w wr w4 w5 : World} {b : Nat} {v : Value} {rs : List L1} {l l4 : List UInt8} {wide b4 o4 : Bool} {xa : Option Addr} {xn xc : Nat} {xr : Ring} {g cap : Nat} (h : P2 w wr b v rs l false wide) (h4 : RT w4 b l4 b4 o4) (u : Fr (· = b) wr w4) (hx : L1.ok w4 ⟨.slice xa xn xc, xr⟩) (hs : b4 = false → l4.length + 1 ≤ l.length) (hl4 : l4.length ≤ 6000)
    (hown : w5.ownsRow w.heap.size 63 1 (.slice (some ⟨g, 0, none⟩) (rs.length + 1) cap) (rs.length + 1) (rs.map L1.v ++ [.slice xa xn xc])) (hg : (w4.alloc (.cells #[.slice xa xn xc] 63)).grownBy w5 v.ownBlock) :
    P2 w w5 b (.slice (some ⟨g, 0, none⟩) (rs.length + 1) cap) (rs ++ [⟨.slice xa xn xc, xr⟩]) l4 b4 o4 := by
  have hb := h.sd
  have o4' : w4.ownsRow w.heap.size 63 1 v rs.length (rs.map L1.v) := own_fr h.own u fun g hg e => own_row_ne h.own hb (by decide) (e ▸ hg)
  have oA := o4'.alloc (.cells #[.slice xa xn xc] 63)
  have hA := (Up.refl w4).alloc (.cells #[.slice xa xn xc] 63)
  refine ⟨?_, fun y hy => ?_, (h4.alloc _).keep oA (by decide) hg, ((h.fr.trans u).alloc _).grown hg fun k hk => .inr (own_lt h.own hk).1, by simp; have := h.sum rfl; omega, hl4, fun e => ?_⟩
  · rw [List.map_append, List.length_append]; exact hown
  · rcases List.mem_append.1 hy with hy | hy
    · exact (((h.sub y hy).fr u fun b hb' e => (h.sub y hy).row_ne hb (by decide) (e ▸ hb')).up hA).grown oA (by decide) hg
    · simp at hy; subst hy
      exact (hx.up hA).grown oA (by decide) hg
  · have := hs e
    have := h.sum rfl
    simp; omega

structure P3 (w wr : World) (b : Nat) (v : Value) (ps : List L2) (l : List UInt8) (bad wide : Bool) : Prop where
  own : wr.ownsRow w.heap.size 47 1 v ps.length (ps.map L2.v)
  sub : ∀ y ∈ ps, y.ok wr
  sd : RT wr b l bad wide
  fr : Fr (· = b) w wr
  len : ps.length ≤ 6001
  rest : l.length ≤ 6000
  sum : bad = false → ps.length + l.length ≤ 6000

theorem P3.step {w wr w4 w5 : World} {b : Nat} {v : Value} {ps : List L2} {l l4 : List UInt8} {wide b4 o4 : Bool} {xa : Option Addr} {xn xc : Nat} {xr : List L1} {g cap : Nat} (h : P3 w wr b v ps l false wide) (h4 : RT w4 b l4 b4 o4) (u : Fr (· = b) wr w4) (hx : L2.ok w4 ⟨.slice xa xn xc, xr⟩) (hs : b4 = false → l4.length + 1 ≤ l.length) (hl4 : l4.length ≤ 6000)
    (hown : w5.ownsRow w.heap.size 47 1 (.slice (some ⟨g, 0, none⟩) (ps.length + 1) cap) (ps.length + 1) (ps.map L2.v ++ [.slice xa xn xc])) (hg : (w4.alloc (.cells #[.slice xa xn xc] 47)).grownBy w5 v.ownBlock) :
    P3 w w5 b (.slice (some ⟨g, 0, none⟩) (ps.length + 1) cap) (ps ++ [⟨.slice xa xn xc, xr⟩]) l4 b4 o4 := by
  have hb := h.sd
  have o4' : w4.ownsRow w.heap.size 47 1 v ps.length (ps.map L2.v) := own_fr h.own u fun g hg e => own_row_ne h.own hb (by decide) (e ▸ hg)
  have oA := o4'.alloc (.cells #[.slice xa xn xc] 47)
  have hA := (Up.refl w4).alloc (.cells #[.slice xa xn xc] 47)
  refine ⟨?_, fun y hy => ?_, (h4.alloc _).keep oA (by decide) hg, ((h.fr.trans u).alloc _).grown hg fun k hk => .inr (own_lt h.own hk).1, by simp; have := h.sum rfl; omega, hl4, fun e => ?_⟩
  · rw [List.map_append, List.length_append]; exact hown
  · rcases List.mem_append.1 hy with hy | hy
    · exact (((h.sub y hy).fr u fun b hb' e => (h.sub y hy).row_ne hb (by decide) (by decide) (e ▸ hb')).up hA).grown oA (by decide) (by decide) hg
    · simp at hy; subst hy
      exact (hx.up hA).grown oA (by decide) (by decide) hg
  · have := hs e
    have := h.sum rfl
    simp; omega

theorem P1.start {w : World} {b : Nat} {l : List UInt8} {bad wide : Bool} (h : RT w b l bad wide) (hl : l.length ≤ 6000) : P1 w w b (.slice none 0 0) [] l bad wide := ⟨World.ownsRow_nil _ _ _ _, h, Fr.refl _ _, by simp, hl, fun _ => by simpa using hl⟩
theorem P2.start {w : World} {b : Nat} {l : List UInt8} {bad wide : Bool} (h : RT w b l bad wide) (hl : l.length ≤ 6000) : P2 w w b (.slice none 0 0) [] l bad wide := ⟨World.ownsRow_nil _ _ _ _, by simp, h, Fr.refl _ _, by simp, hl, fun _ => by simpa using hl⟩
theorem P3.start {w : World} {b : Nat} {l : List UInt8} {bad wide : Bool} (h : RT w b l bad wide) (hl : l.length ≤ 6000) : P3 w w b (.slice none 0 0) [] l bad wide := ⟨World.ownsRow_nil _ _ _ _, by simp, h, Fr.refl _ _, by simp, hl, fun _ => by simpa using hl⟩

theorem P1.sd' {w wr w' : World} {b : Nat} {v : Value} {r : Ring} {l l' : List UInt8} {bad wide bad' wide' : Bool} (h : P1 w wr b v r l bad wide) (h4 : RT w' b l' bad' wide') (u : Fr (· = b) wr w') (hl : l'.length ≤ l.length) (hb : bad' = false → bad = false) : P1 w w' b v r l' bad' wide' :=
  ⟨own_fr h.own u fun g hg e => own_row_ne h.own h.sd (by decide) (e ▸ hg), h4, h.fr.trans u, h.len, by have := h.rest; omega, fun e => by have := h.sum (hb e); omega⟩
theorem P2.sd' {w wr w' : World} {b : Nat} {v : Value} {r : List L1} {l l' : List UInt8} {bad wide bad' wide' : Bool} (h : P2 w wr b v r l bad wide) (h4 : RT w' b l' bad' wide') (u : Fr (· = b) wr w') (hl : l'.length ≤ l.length) (hb : bad' = false → bad = false) : P2 w w' b v r l' bad' wide' :=
  ⟨own_fr h.own u fun g hg e => own_row_ne h.own h.sd (by decide) (e ▸ hg), fun y hy => (h.sub y hy).fr u fun b hb' e => (h.sub y hy).row_ne h.sd (by decide) (e ▸ hb'), h4, h.fr.trans u, h.len, by have := h.rest; omega, fun e => by have := h.sum (hb e); omega⟩
theorem P3.sd' {w wr w' : World} {b : Nat} {v : Value} {r : List L2} {l l' : List UInt8} {bad wide bad' wide' : Bool} (h : P3 w wr b v r l bad wide) (h4 : RT w' b l' bad' wide') (u : Fr (· = b) wr w') (hl : l'.length ≤ l.length) (hb : bad' = false → bad = false) : P3 w w' b v r l' bad' wide' :=
  ⟨own_fr h.own u fun g hg e => own_row_ne h.own h.sd (by decide) (e ▸ hg), fun y hy => (h.sub y hy).fr u fun b hb' e => (h.sub y hy).row_ne h.sd (by decide) (by decide) (e ▸ hb'), h4, h.fr.trans u, h.len, by have := h.rest; omega, fun e => by have := h.sum (hb e); omega⟩

theorem P1.step' {w wr w4 w5 : World} {b : Nat} {v : Value} {r : Ring} {l l4 : List UInt8} {bad wide b4 o4 : Bool} {x y : Int} {g cap : Nat} (h : P1 w wr b v r l bad wide) (h6 : r.length ≤ 6000) (h4 : RT w4 b l4 b4 o4) (u : Fr (· = b) wr w4) (hs : b4 = false → r.length + 1 + l4.length ≤ 6000) (hl4 : l4.length ≤ 6000)
    (hown : w5.ownsRow w.heap.size 76 2 (.slice (some ⟨g, 0, none⟩) (r.length + 1) cap) (r.length + 1) (flat r ++ [.int .i64 x, .int .i64 y])) (hg : (w4.alloc (.cells #[.int .i64 x, .int .i64 y] 76)).grownBy w5 v.ownBlock) :
    P1 w w5 b (.slice (some ⟨g, 0, none⟩) (r.length + 1) cap) (r ++ [(x, y)]) l4 b4 o4 := by
  have hb := h.sd
  have o4' : w4.ownsRow w.heap.size 76 2 v r.length (flat r) := own_fr h.own u fun g hg e => own_row_ne h.own hb (by decide) (e ▸ hg)
  have oA := o4'.alloc (.cells #[.int .i64 x, .int .i64 y] 76)
  refine ⟨?_, (h4.alloc _).keep oA (by decide) hg, ((h.fr.trans u).alloc _).grown hg fun k hk => .inr (own_lt h.own hk).1, by simp; omega, hl4, fun e => ?_⟩
  · rw [flat_append, List.length_append]; exact hown
  · have := hs e
    simp; omega

theorem P2.step' {w wr w4 w5 : World} {b : Nat} {v : Value} {rs : List L1} {l l4 : List UInt8} {bad wide b4 o4 : Bool} {xa : Option Addr} {xn xc : Nat} {xr : Ring} {g cap : Nat} (h : P2 w wr b v rs l bad wide) (h6 : rs.length ≤ 6000) (h4 : RT w4 b l4 b4 o4) (u : Fr (· = b) wr w4) (hx : L1.ok w4 ⟨.slice xa xn xc, xr⟩) (hs : b4 = false → rs.length + 1 + l4.length ≤ 6000) (hl4 : l4.length ≤ 6000)
    (hown : w5.ownsRow w.heap.size 63 1 (.slice (some ⟨g, 0, none⟩) (rs.length + 1) cap) (rs.length + 1) (rs.map L1.v ++ [.slice xa xn xc])) (hg : (w4.alloc (.cells #[.slice xa xn xc] 63)).grownBy w5 v.ownBlock) :
    P2 w w5 b (.slice (some ⟨g, 0, none⟩) (rs.length + 1) cap) (rs ++ [⟨.slice xa xn xc, xr⟩]) l4 b4 o4 := by
  have hb := h.sd
  have o4' : w4.ownsRow w.heap.size 63 1 v rs.length (rs.map L1.v) := own_fr h.own u fun g hg e => own_row_ne h.own hb (by decide) (e ▸ hg)
  have oA := o4'.alloc (.cells #[.slice xa xn xc] 63)
  have hA := (Up.refl w4).alloc (.cells #[.slice xa xn xc] 63)
  refine ⟨?_, fun y hy => ?_, (h4.alloc _).keep oA (by decide) hg, ((h.fr.trans u).alloc _).grown hg fun k hk => .inr (own_lt h.own hk).1, by simp; omega, hl4, fun e => ?_⟩
  · rw [List.map_append, List.length_append]; exact hown
  · rcases List.mem_append.1 hy with hy | hy
    · exact (((h.sub y hy).fr u fun b hb' e => (h.sub y hy).row_ne hb (by decide) (e ▸ hb')).up hA).grown oA (by decide) hg
    · simp at hy; subst hy
      exact (hx.up hA).grown oA (by decide) hg
  · have := hs e
    simp; omega

theorem P3.step' {w wr w4 w5 : World} {b : Nat} {v : Value} {ps : List L2} {l l4 : List UInt8} {bad wide b4 o4 : Bool} {xa : Option Addr} {xn xc : Nat} {xr : List L1} {g cap : Nat} (h : P3 w wr b v ps l bad wide) (h6 : ps.length ≤ 6000) (h4 : RT w4 b l4 b4 o4) (u : Fr (· = b) wr w4) (hx : L2.ok w4 ⟨.slice xa xn xc, xr⟩) (hs : b4 = false → ps.length + 1 + l4.length ≤ 6000) (hl4 : l4.length ≤ 6000)
    (hown : w5.ownsRow w.heap.size 47 1 (.slice (some ⟨g, 0, none⟩) (ps.length + 1) cap) (ps.length + 1) (ps.map L2.v ++ [.slice xa xn xc])) (hg : (w4.alloc (.cells #[.slice xa xn xc] 47)).grownBy w5 v.ownBlock) :
    P3 w w5 b (.slice (some ⟨g, 0, none⟩) (ps.length + 1) cap) (ps ++ [⟨.slice xa xn xc, xr⟩]) l4 b4 o4 := by
  have hb := h.sd
  have o4' : w4.ownsRow w.heap.size 47 1 v ps.length (ps.map L2.v) := own_fr h.own u fun g hg e => own_row_ne h.own hb (by decide) (e ▸ hg)
  have oA := o4'.alloc (.cells #[.slice xa xn xc] 47)
  have hA := (Up.refl w4).alloc (.cells #[.slice xa xn xc] 47)
  refine ⟨?_, fun y hy => ?_, (h4.alloc _).keep oA (by decide) hg, ((h.fr.trans u).alloc _).grown hg fun k hk => .inr (own_lt h.own hk).1, by simp; omega, hl4, fun e => ?_⟩
  · rw [List.map_append, List.length_append]; exact hown
  · rcases List.mem_append.1 hy with hy | hy
    · exact (((h.sub y hy).fr u fun b hb' e => (h.sub y hy).row_ne hb (by decide) (by decide) (e ▸ hb')).up hA).grown oA (by decide) (by decide) hg
    · simp at hy; subst hy
      exact (hx.up hA).grown oA (by decide) (by decide) hg
  · have := hs e
    simp; omega
end Go.Proofs.YtcclepohmhdpbabGreat
