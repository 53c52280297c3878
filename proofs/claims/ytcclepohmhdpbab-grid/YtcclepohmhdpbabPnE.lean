/- THE WALKS: package plane: Segments, meetsRay. -/
import Derived.Test.YtcclepohmhdpbabWalkC
import Derived.Test.YtcclepohmhdpbabWalkP
namespace Go.Proofs.Ytcclepohmhdpbab
set_option linter.all false
open Go.RowKit Go.Deep

theorem wrap_id {x : Int} (h1 : -9223372036854775808 ≤ x) (h2 : x ≤ 9223372036854775807) : IntKind.i64.wrap x = x := by
  simp [IntKind.wrap, IntKind.bits, IntKind.signed]; omega
/-! ### lists of what is some cells wide -/
def flatG {α : Type} (f : α → List Value) (l : List α) : List Value := l.flatMap f
theorem flatG_append {α : Type} (f : α → List Value) (a b : List α) : flatG f (a ++ b) = flatG f a ++ flatG f b := by simp [flatG]
theorem flatG_at {α : Type} {f : α → List Value} {n : Nat} (hf : ∀ x, (f x).length = n) : ∀ (l : List α) (i : Nat) (x : α) (j : Nat) (u : Value), l[i]? = some x → (f x)[j]? = some u → (flatG f l)[i * n + j]? = some u := by
  intro l
  induction l with
  | nil => intro i x j u h; simp at h
  | cons a t ih =>
    intro i x j u h hu
    have hj : j < n := by rw [← hf x]; exact Pl.lt_of_some hu
    show (f a ++ flatG f t)[i * n + j]? = some u
    cases i with
    | zero => simp at h; subst h; rw [List.getElem?_append_left (by rw [hf]; omega)]; simpa using hu
    | succ i =>
      rw [List.getElem?_append_right (by rw [hf, Nat.succ_mul]; omega), hf, show (i + 1) * n + j - n = i * n + j by rw [Nat.succ_mul]; omega]
      exact ih i x j u (by simpa using h) hu
/-- A list reads as these. -/
def RdG {α : Type} (n : Nat) (f : α → List Value) (w : World) (v : Value) (l : List α) : Prop :=
  ∃ ao cap, v = .slice ao l.length cap ∧ ∀ i x, l[i]? = some x → ∃ b, ao = some ⟨b, 0, none⟩ ∧ ∀ j u, (f x)[j]? = some u → w.cell? ⟨b, i * n + j, none⟩ = some u
theorem RdG.up {α : Type} {n : Nat} {f : α → List Value} {w w' : World} {v : Value} {l : List α} (h : RdG n f w v l) (k : Up w w') : RdG n f w' v l := by
  obtain ⟨ao, cap, e, h⟩ := h
  exact ⟨ao, cap, e, fun i x hx => by obtain ⟨b, e1, e2⟩ := h i x hx; exact ⟨b, e1, fun j u hu => k.cell (e2 j u hu)⟩⟩
theorem own_rdG {α : Type} {n : Nat} {f : α → List Value} (hf : ∀ x, (f x).length = n) {w : World} {base : Nat} {e : TypeId} {v : Value} {l : List α} (h : w.ownsRow base e n v l.length (flatG f l)) : RdG n f w v l := by
  obtain ⟨ao, cap, ev⟩ := own_len h
  refine ⟨ao, cap, ev, fun i x hx => ?_⟩
  obtain ⟨g, cap', e', hc⟩ := own_cell h (by have := Pl.lt_of_some hx; omega)
  rw [ev] at e'
  cases e'
  exact ⟨g, rfl, fun j u hu => hc _ _ (flatG_at hf l i x j u hx hu)⟩
def segC (s : Vd.Seg) : List Value := [.int .i64 s.1.1, .int .i64 s.1.2, .int .i64 s.2.1, .int .i64 s.2.2]
def spotC (p : Vd.Spot) : List Value := [.int .i64 p.1.1, .int .i64 p.1.2, .int .i64 p.2]
def ptC (p : Pnt) : List Value := [.int .i64 p.1, .int .i64 p.2]
def intC (n : Nat) : List Value := [.int .i64 n]
abbrev RdSeg := RdG 4 segC
abbrev RdSpot := RdG 3 spotC
abbrev RdInt := RdG 1 intC
theorem RdG.seg {w : World} {v : Value} {l : List Vd.Seg} (h : RdSeg w v l) {i : Nat} {s : Vd.Seg} (hs : l[i]? = some s) : ∃ b cap, v = .slice (some ⟨b, 0, none⟩) l.length cap ∧ w.cell? ⟨b, i * 4, none⟩ = some (.int .i64 s.1.1) ∧ w.cell? ⟨b, i * 4 + 1, none⟩ = some (.int .i64 s.1.2) ∧ w.cell? ⟨b, i * 4 + 2, none⟩ = some (.int .i64 s.2.1) ∧ w.cell? ⟨b, i * 4 + 3, none⟩ = some (.int .i64 s.2.2) := by
  obtain ⟨ao, cap, e, h⟩ := h
  obtain ⟨b, rfl, hc⟩ := h i s hs
  exact ⟨b, cap, e, hc 0 _ rfl, hc 1 _ rfl, hc 2 _ rfl, hc 3 _ rfl⟩
theorem RdG.spot {w : World} {v : Value} {l : List Vd.Spot} (h : RdSpot w v l) {i : Nat} {s : Vd.Spot} (hs : l[i]? = some s) : ∃ b cap, v = .slice (some ⟨b, 0, none⟩) l.length cap ∧ w.cell? ⟨b, i * 3, none⟩ = some (.int .i64 s.1.1) ∧ w.cell? ⟨b, i * 3 + 1, none⟩ = some (.int .i64 s.1.2) ∧ w.cell? ⟨b, i * 3 + 2, none⟩ = some (.int .i64 s.2) := by
  obtain ⟨ao, cap, e, h⟩ := h
  obtain ⟨b, rfl, hc⟩ := h i s hs
  exact ⟨b, cap, e, hc 0 _ rfl, hc 1 _ rfl, hc 2 _ rfl⟩
theorem RdG.int {w : World} {v : Value} {l : List Nat} (h : RdInt w v l) {i : Nat} {s : Nat} (hs : l[i]? = some s) : ∃ b cap, v = .slice (some ⟨b, 0, none⟩) l.length cap ∧ w.cell? ⟨b, i, none⟩ = some (.int .i64 s) := by
  obtain ⟨ao, cap, e, h⟩ := h
  obtain ⟨b, rfl, hc⟩ := h i s hs
  exact ⟨b, cap, e, by have := hc 0 _ rfl; simpa using this⟩
theorem und_segs : Try.prog.underlying 52 = some (.slice 55) := by kernel_rfl
theorem info_seg : (Try.prog.info? 55).map (fun i => (i.zero, i.size, i.bytes)) = some (some (.agg #[.int .i64 0, .int .i64 0, .int .i64 0, .int .i64 0]), 4, 32) := by kernel_rfl
theorem el_segs : Elem Try.prog 52 55 (.agg #[.int .i64 0, .int .i64 0, .int .i64 0, .int .i64 0]) 4 32 := ⟨und_segs, info_seg, rfl, by omega, by omega⟩
theorem segs_take {r : Ring} {k : Nat} {p q : Pnt} (hp : r[k]? = some p) (hq : r[k + 1]? = some q) : (Vd.segs r).take (k + 1) = (Vd.segs r).take k ++ [(p, q)] := Pl.take_one (Vd.segs_at hp hq)

set_option maxHeartbeats 4000000 in
theorem segments_any (v : Value) (r : Ring) (w : World) (hv : Rd1 w v r) (hr : r.length ≤ 1048576) :
    Calls Try.prog 29 #[v] w fun e w' => ∃ u, e = .returned u ∧ Up w w' ∧ w'.ownsRow w.heap.size 55 4 u (Vd.segs r).length (flatG segC (Vd.segs r)) := by
  obtain ⟨ao, cap, rfl, hm⟩ := hv
  have HM := hide hm
  clear hm
  go_enter Try.func29, Try.ntmps29
  go_wp2
  go_loopw [3, 4] (fun sv i wr => ∃ (k : Nat) (u : Value), i = .int .i64 (k + 1 : Nat) ∧ u = sv ∧ k ≤ (Vd.segs r).length ∧ Hid (Up w wr) ∧ Hid (wr.ownsRow w.heap.size 55 4 u k (flatG segC ((Vd.segs r).take k)))) (fun _ i _ => r.length - (intOf i).toNat)
  case atStart => exact ⟨0, _, rfl, rfl, Nat.zero_le _, Up.refl _, World.ownsRow_nil _ _ _ _⟩
  case round =>
    obtain ⟨k, u, rfl, rfl, hk, HU, HO⟩ := hrel
    by_cases hlt : k + 1 < r.length
    · obtain ⟨⟨px, py⟩, hp⟩ := Pl.some_of_lt (show k < r.length by omega)
      obtain ⟨⟨qx, qy⟩, hq⟩ := Pl.some_of_lt hlt
      have HT := hide (segs_take hp hq)
      obtain ⟨b, rfl, c0, c1⟩ := HM.out k _ hp
      obtain ⟨b', e', d0, d1⟩ := HM.out (k + 1) _ hq
      cases e'
      have f0 := HU.out.cell c0
      have f1 := HU.out.cell c1
      have g0 := HU.out.cell d0
      have g1 := HU.out.cell d1
      have f0a := fun o => ((Up.refl wr).alloc o).cell f0
      have f1a := fun o => ((Up.refl wr).alloc o).cell f1
      have g0a := fun o => ((Up.refl wr).alloc o).cell g0
      have g1a := fun o => ((Up.refl wr).alloc o).cell g1
      have HOA := hide (fun o => HO.out.alloc o)
      have hb : Hid (k ≤ 1073741824) := by show _ ≤ _; omega
      have hsz := hide HU.out.size
      have i1 : (0 : Int) ≤ (k : Int) := by omega
      have i2 : (k : Int) < (r.length : Int) := by omega
      have i3 : (k : Int) + 1 < (r.length : Int) := by omega
      have i4 : IntKind.i64.wrap (k : Int) = (k : Int) := wrap_id (by omega) (by omega)
      have i5 : (0 : Int) ≤ (k : Int) + 1 := by omega
      clear c0 c1 d0 d1 hp hq
      go_upto_region 5 with fail
      go_region_law ((refine step_app el_segs rfl (.tmp 11) (.tmp 22) rfl w.heap.size u _ _ (by rfl) (HOA.out _) wr.heap.size (segC ((px, py), (qx, qy))) (by rfl) rfl (heap_alloc_new wr _) (by intro x hx; simp [segC] at hx; rcases hx with rfl | rfl | rfl | rfl <;> rfl) hb.out (by simp; have := hsz.out; omega) ?_; intro g cap w1 hown1 hg1 hat1 hlt1))
      all_goals
        have HO2 := hide hown1
        have HU2 : Hid (Up w w1) := Fr.up (S := fun _ => False) (((Fr.of_up HU.out).alloc _).drew.grown hg1 fun x hx => .inr (own_lt HO.out hx).1) (fun _ _ h => h)
        clear hown1 hg1 hat1 hlt1 f0 f1 g0 g1 f0a f1a g0a g1a
        go_wp2
        go_roundw
        case rel => exact ⟨k + 1, _, by go_num, rfl, by rw [Vd.segs_len]; omega, HU2, by rw [HT.out, flatG_append]; exact HO2⟩
        case measure => simp [intOf]; omega
    · have hk2 : k = (Vd.segs r).length := by rw [Vd.segs_len] at *; omega
      subst hk2
      go_wp2
      go_ret
      exact ⟨_, rfl, HU.out, by have := HO.out; rwa [List.take_length] at this⟩
end Go.Proofs.Ytcclepohmhdpbab
