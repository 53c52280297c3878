/- WHAT MAY HAVE TURNED, BY BLOCKS; readings with their blocks named. -/
import Derived.Test.YtcclepohmhdpbaaTree
namespace Go.Proofs.Ytcclepohmhdpbaa
set_option linter.all false
open Go.RowKit Go.Deep

/-- Nothing has turned but in blocks of S (and new ones). -/
structure Fr (S : Nat → Prop) (w w' : World) : Prop where
  os : w'.os = w.os
  tape : w'.tape = w.tape
  output : w'.output = w.output
  size : w.heap.size ≤ w'.heap.size
  block : ∀ b, b < w.heap.size → ¬ S b → w'.heap[b]? = w.heap[b]?

theorem Fr.refl (S : Nat → Prop) (w : World) : Fr S w w := ⟨rfl, rfl, rfl, Nat.le_refl _, fun _ _ _ => rfl⟩
theorem Fr.trans {S : Nat → Prop} {a b c : World} (h : Fr S a b) (k : Fr S b c) : Fr S a c :=
  ⟨k.os.trans h.os, k.tape.trans h.tape, k.output.trans h.output, Nat.le_trans h.size k.size, fun i hi hs => (k.block i (Nat.lt_of_lt_of_le hi h.size) hs).trans (h.block i hi hs)⟩
theorem Fr.mono {S T : Nat → Prop} {a b : World} (h : Fr S a b) (k : ∀ x, x < a.heap.size → S x → T x) : Fr T a b :=
  ⟨h.os, h.tape, h.output, h.size, fun i hi hs => h.block i hi (fun e => hs (k i hi e))⟩
theorem Fr.of_up {S : Nat → Prop} {a b : World} (h : Up a b) : Fr S a b := ⟨h.os, h.tape, h.output, h.size, fun i hi _ => h.block i hi⟩
theorem Fr.up {S : Nat → Prop} {a b : World} (h : Fr S a b) (k : ∀ x, x < a.heap.size → ¬ S x) : Up a b := ⟨h.os, h.tape, h.output, h.size, fun i hi => h.block i hi (k i hi)⟩
theorem Fr.alloc {S : Nat → Prop} {a b : World} (h : Fr S a b) (o : Obj) : Fr S a (b.alloc o) := h.trans (Fr.of_up ((Up.refl _).alloc o))
theorem Fr.drewN {S : Nat → Prop} {a b : World} (h : Fr S a b) (n : Nat) : Fr S a (b.drewN n) := h.trans (Fr.of_up ((Up.refl _).drewN n))
theorem Fr.drew {S : Nat → Prop} {a b : World} (h : Fr S a b) : Fr S a b.drew := h.trans (Fr.of_up (Up.refl _).drew)
theorem Fr.setCell {S : Nat → Prop} {a b : World} (h : Fr S a b) {p : Addr} (hp : S p.block) (u : Value) : Fr S a (b.setCell p u) :=
  h.trans ⟨rfl, rfl, rfl, by simp [World.setCell], fun k _ hs => Below.heap_setCell _ _ _ _ (fun e => hs (e ▸ hp))⟩
theorem Fr.setNew {S : Nat → Prop} {a b : World} (h : Fr S a b) {p : Addr} (hp : a.heap.size ≤ p.block) (u : Value) : Fr S a (b.setCell p u) :=
  ⟨h.os, h.tape, h.output, by simpa [World.setCell] using h.size, fun k hk hs => (Below.heap_setCell _ _ _ _ (by omega)).trans (h.block k hk hs)⟩
theorem Fr.grown {S : Nat → Prop} {a b c : World} (h : Fr S a b) {row : Option Nat} (hg : b.grownBy c row) (hr : ∀ k, row = some k → S k ∨ a.heap.size ≤ k) : Fr S a c :=
  ⟨hg.os.trans h.os, hg.tape.trans h.tape, hg.output.trans h.output, Nat.le_trans h.size hg.size, fun i hi hs => (hg.block i (Nat.lt_of_lt_of_le hi h.size) (fun e => by
    rcases hr i e.symm with h1 | h1
    · exact hs h1
    · omega)).trans (h.block i hi hs)⟩
theorem Fr.row {S : Nat → Prop} {a c : World} (h : Fr S a c) {b : Nat} {t : TypeId} {vs : List Value} (hv : VRow a b t vs) (hs : ¬ S b) : VRow c b t vs := hv.of_block (h.block b hv.lt hs)
theorem Fr.cell {S : Nat → Prop} {a c : World} (h : Fr S a c) {p : Addr} {v : Value} (hv : a.cell? p = some v) (hs : ¬ S p.block) : c.cell? p = some v :=
  (World.cell?_of_block (h.block _ (lt_of_cell hv) hs)).trans hv
theorem Fr.ok1 {S : Nat → Prop} {a c : World} (h : Fr S a c) {d : D1} (hv : OK1 a d) (hs : ¬ S d.b) : OK1 c d := h.row hv hs
theorem Fr.ok2 {S : Nat → Prop} {a c : World} (h : Fr S a c) {d : D2} (hv : OK2 a d) (hs : ∀ b ∈ d.bl, ¬ S b) : OK2 c d := hv.of fun b hb => h.block b (hv.lt b hb) (hs b hb)
theorem Fr.ok3 {S : Nat → Prop} {a c : World} (h : Fr S a c) {d : D3} (hv : OK3 a d) (hs : ∀ b ∈ d.bl, ¬ S b) : OK3 c d := hv.of fun b hb => h.block b (hv.lt b hb) (hs b hb)

/-! ### Readings with their blocks -/
def RF1 (F : Nat → Prop) (w : World) (v : Value) (r : Ring) : Prop :=
  ∃ ao cap, v = .slice ao r.length cap ∧ ∀ i p, r[i]? = some p → ∃ b, F b ∧ ao = some ⟨b, 0, none⟩ ∧ w.cell? ⟨b, i * 2, none⟩ = some (.int .i64 p.1) ∧ w.cell? ⟨b, i * 2 + 1, none⟩ = some (.int .i64 p.2)
def RF2 (F : Nat → Prop) (w : World) (v : Value) (l : Poly) : Prop :=
  ∃ ao cap, v = .slice ao l.length cap ∧ ∀ i r, l[i]? = some r → ∃ b u, F b ∧ ao = some ⟨b, 0, none⟩ ∧ w.cell? ⟨b, i, none⟩ = some u ∧ RF1 F w u r
def RF3 (F : Nat → Prop) (w : World) (v : Value) (m : Mult) : Prop :=
  ∃ ao cap, v = .slice ao m.length cap ∧ ∀ i l, m[i]? = some l → ∃ b u, F b ∧ ao = some ⟨b, 0, none⟩ ∧ w.cell? ⟨b, i, none⟩ = some u ∧ RF2 F w u l

theorem RF1.rd {F : Nat → Prop} {w : World} {v : Value} {r : Ring} (h : RF1 F w v r) : Rd1 w v r := by
  obtain ⟨ao, cap, e, h⟩ := h
  exact ⟨ao, cap, e, fun i p hp => by obtain ⟨b, _, e1, e2, e3⟩ := h i p hp; exact ⟨b, e1, e2, e3⟩⟩
theorem RF2.rd {F : Nat → Prop} {w : World} {v : Value} {l : Poly} (h : RF2 F w v l) : Rd2 w v l := by
  obtain ⟨ao, cap, e, h⟩ := h
  exact ⟨ao, cap, e, fun i p hp => by obtain ⟨b, u, _, e1, e2, e3⟩ := h i p hp; exact ⟨b, u, e1, e2, e3.rd⟩⟩
theorem RF3.rd {F : Nat → Prop} {w : World} {v : Value} {m : Mult} (h : RF3 F w v m) : Rd3 w v m := by
  obtain ⟨ao, cap, e, h⟩ := h
  exact ⟨ao, cap, e, fun i p hp => by obtain ⟨b, u, _, e1, e2, e3⟩ := h i p hp; exact ⟨b, u, e1, e2, e3.rd⟩⟩

theorem RF1.keep {F F' : Nat → Prop} {S : Nat → Prop} {w w' : World} {v : Value} {r : Ring} (h : RF1 F w v r) (k : Fr S w w') (hF : ∀ b, b < w.heap.size → F b → F' b ∧ ¬ S b) : RF1 F' w' v r := by
  obtain ⟨ao, cap, e, h⟩ := h
  refine ⟨ao, cap, e, fun i p hp => ?_⟩
  obtain ⟨b, f, e1, e2, e3⟩ := h i p hp
  obtain ⟨g1, g2⟩ := hF b (lt_of_cell e2) f
  exact ⟨b, g1, e1, k.cell e2 g2, k.cell e3 g2⟩
theorem RF2.keep {F F' : Nat → Prop} {S : Nat → Prop} {w w' : World} {v : Value} {l : Poly} (h : RF2 F w v l) (k : Fr S w w') (hF : ∀ b, b < w.heap.size → F b → F' b ∧ ¬ S b) : RF2 F' w' v l := by
  obtain ⟨ao, cap, e, h⟩ := h
  refine ⟨ao, cap, e, fun i p hp => ?_⟩
  obtain ⟨b, u, f, e1, e2, e3⟩ := h i p hp
  obtain ⟨g1, g2⟩ := hF b (lt_of_cell e2) f
  exact ⟨b, u, g1, e1, k.cell e2 g2, e3.keep k hF⟩
theorem RF3.keep {F F' : Nat → Prop} {S : Nat → Prop} {w w' : World} {v : Value} {m : Mult} (h : RF3 F w v m) (k : Fr S w w') (hF : ∀ b, b < w.heap.size → F b → F' b ∧ ¬ S b) : RF3 F' w' v m := by
  obtain ⟨ao, cap, e, h⟩ := h
  refine ⟨ao, cap, e, fun i p hp => ?_⟩
  obtain ⟨b, u, f, e1, e2, e3⟩ := h i p hp
  obtain ⟨g1, g2⟩ := hF b (lt_of_cell e2) f
  exact ⟨b, u, g1, e1, k.cell e2 g2, e3.keep k hF⟩

end Go.Proofs.Ytcclepohmhdpbaa
