/- SETS THAT CAME OUT OF THE ONE WAY: on both sides they hang on blocks of their own. -/
import Derived.Test.YtcclepohmhdpbaaGreatDoorCeB
import Derived.Test.YtcclepohmhdpbaaGreatDoorRfH
import Derived.Test.YtcclepohmhdpbaaGreatDoorCnH
import Derived.Test.YtcclepohmhdpbaaGreatDoorInv
namespace Go.Proofs.YtcclepohmhdpbaaGreatDoor
set_option linter.all false
open Go.RowKit Go.Deep

theorem Kept.strong {F : Nat → Prop} {w : World} {R : World → Prop} (h : Kept F w R) : Kept (fun b => F b ∧ b < w.heap.size) w R := by
  obtain ⟨l, h1, h2⟩ := h
  exact ⟨l, fun b hb => ⟨(h1 b hb).1, (h1 b hb).2, (h1 b hb).1⟩, h2⟩
theorem mem_own {v : Value} {g : Nat} (h : v.ownBlock = some g) : g ∈ v.ownBlock.toList := by rw [h]; simp
theorem own_mem {v : Value} {g : Nat} (h : g ∈ v.ownBlock.toList) : v.ownBlock = some g := by simpa using h
/-! ### the program's -/
def PG.bl (x : PG) : List Nat := x.v.ownBlock.toList ++ x.q.map RG.g
theorem QF.of {base : Nat} {w w' : World} {x : PG} (h : QF base w x.v x.q) (e : ∀ b ∈ x.bl, w'.heap[b]? = w.heap[b]?) : QF base w' x.v x.q :=
  ⟨own_of_block h.own fun g hg => e g (List.mem_append_left _ (mem_own hg)), fun q hq => ⟨(h.ok q hq).1, VRow.of_block (h.ok q hq).2 (e q.g (List.mem_append_right _ (List.mem_map_of_mem hq)))⟩⟩
theorem QF.bl {base : Nat} {w : World} {x : PG} (h : QF base w x.v x.q) : ∀ b ∈ x.bl, base ≤ b ∧ b < w.heap.size := fun b hb => by
  rcases List.mem_append.1 hb with hb | hb
  · exact own_lt h.own (own_mem hb)
  · obtain ⟨q, hq, rfl⟩ := List.mem_map.1 hb
    exact ⟨(h.ok q hq).1, VRow.lt (h.ok q hq).2⟩
theorem NS.rc {base : Nat} {w : World} {G : Nat} {X : List PG} (h : NS base w G X) : Rc3 w (.slice (some ⟨G, 0, none⟩) X.length X.length) (PG.m X) := by
  refine ⟨_, _, by rw [PG.m_len], fun i l hl => ?_⟩
  unfold PG.m at hl
  rw [List.getElem?_map, Option.map_eq_some_iff] at hl
  obtain ⟨x, hx, rfl⟩ := hl
  exact ⟨G, x.v, rfl, h.row.cell (by rw [List.getElem?_map, hx]; rfl), (h.ok x (Pl.mem_of_some hx)).rc⟩
theorem NS.kept {base : Nat} {w : World} {b G : Nat} {X : List PG} (h : NS base w G X) (hb : base ≤ b) (hrow : VRow w b 78 [.slice (some ⟨G, 0, none⟩) X.length X.length]) :
    Kept (fun x => base ≤ x) w fun w => VRow w b 78 [.slice (some ⟨G, 0, none⟩) X.length X.length] ∧ Rc3 w (.slice (some ⟨G, 0, none⟩) X.length X.length) (PG.m X) := by
  refine ⟨b :: G :: X.flatMap PG.bl, fun x hx => ?_, fun w' e => ?_⟩
  · rcases List.mem_cons.1 hx with rfl | hx
    · exact ⟨VRow.lt hrow, hb⟩
    · rcases List.mem_cons.1 hx with rfl | hx
      · exact ⟨VRow.lt h.row, h.low⟩
      · obtain ⟨y, hy, hx⟩ := List.mem_flatMap.1 hx
        exact ⟨((h.ok y hy).bl x hx).2, ((h.ok y hy).bl x hx).1⟩
  · refine ⟨VRow.of_block hrow (e b (by simp)), NS.rc (base := base) ⟨h.low, VRow.of_block h.row (e G (by simp)), fun x hx => (h.ok x hx).of fun y hy => e y ?_⟩⟩
    exact List.mem_cons_of_mem _ (List.mem_cons_of_mem _ (List.mem_flatMap.2 ⟨x, hx, hy⟩))
/-! ### the document's -/
def DcP.bl (x : DcP) : List Nat := x.v.ownBlock.toList ++ x.l.flatMap fun y => y.v.ownBlock.toList
theorem DcQ.of {base : Nat} {w w' : World} {x : DcP} (h : DcQ base w x.v x.l) (e : ∀ b ∈ x.bl, w'.heap[b]? = w.heap[b]?) : DcQ base w' x.v x.l :=
  ⟨own_of_block h.own fun g hg => e g (List.mem_append_left _ (mem_own hg)), fun q hq => own_of_block (h.ok q hq) fun g hg => e g (List.mem_append_right _ (List.mem_flatMap.2 ⟨q, hq, mem_own hg⟩))⟩
theorem DcQ.bl {base : Nat} {w : World} {x : DcP} (h : DcQ base w x.v x.l) : ∀ b ∈ x.bl, base ≤ b ∧ b < w.heap.size := fun b hb => by
  rcases List.mem_append.1 hb with hb | hb
  · exact own_lt h.own (own_mem hb)
  · obtain ⟨q, hq, hb⟩ := List.mem_flatMap.1 hb
    exact own_lt (h.ok q hq) (own_mem hb)
theorem own_room {w : World} {base : Nat} {e : TypeId} {size n cap : Nat} {a : Option Addr} {xs : List Value} (h : w.ownsRow base e size (.slice a n cap) n xs) : n ≤ cap := by
  rcases h.2 with ⟨h', h0⟩ | ⟨g', cap', cur, h', hb, hg, hnc, _⟩
  · rw [h0]; exact Nat.zero_le _
  · cases h'; exact hnc
theorem DcQ.rc {base : Nat} {w : World} {v : Value} {l : List DcV} (h : DcQ base w v l) : Rc2 w v (l.map DcV.r) := by
  obtain ⟨ao, cap, rfl⟩ := own_len h.own
  refine ⟨ao, cap, by rw [List.length_map], by rw [List.length_map]; exact own_room h.own, fun i r hi => ?_⟩
  rw [List.getElem?_map] at hi
  obtain ⟨x, hx, rfl⟩ := Option.map_eq_some_iff.1 hi
  obtain ⟨g', cap', e', hc⟩ := own_cell h.own (by have := Pl.lt_of_some hx; omega)
  cases e'
  exact ⟨g', x.v, rfl, hc i _ (by rw [List.getElem?_map, hx]; rfl), (h.ok x (Pl.mem_of_some hx)).rd⟩
theorem DcO.rc {base : Nat} {w : World} {v : Value} {l : List DcP} (h : DcO base w v l) : Rc3 w v (l.map DcP.m) := by
  obtain ⟨ao, cap, rfl⟩ := own_len h.own
  refine ⟨ao, cap, by rw [List.length_map], fun i r hi => ?_⟩
  rw [List.getElem?_map] at hi
  obtain ⟨x, hx, rfl⟩ := Option.map_eq_some_iff.1 hi
  obtain ⟨g', cap', e', hc⟩ := own_cell h.own (by have := Pl.lt_of_some hx; omega)
  cases e'
  exact ⟨g', x.v, rfl, hc i _ (by rw [List.getElem?_map, hx]; rfl), (h.ok x (Pl.mem_of_some hx)).rc⟩
theorem DcO.kept {base : Nat} {w : World} {v : Value} {L : List DcP} (h : DcO base w v L) : Kept (fun x => base ≤ x) w fun w => Rc3 w v (L.map DcP.m) := by
  refine ⟨v.ownBlock.toList ++ L.flatMap DcP.bl, fun x hx => ?_, fun w' e => ?_⟩
  · rcases List.mem_append.1 hx with hx | hx
    · have := own_lt h.own (own_mem hx); exact ⟨this.2, this.1⟩
    · obtain ⟨y, hy, hx⟩ := List.mem_flatMap.1 hx
      exact ⟨((h.ok y hy).bl x hx).2, ((h.ok y hy).bl x hx).1⟩
  · exact DcO.rc (base := base) ⟨own_of_block h.own fun g hg => e g (List.mem_append_left _ (mem_own hg)), fun x hx => (h.ok x hx).of fun b hb => e b (List.mem_append_right _ (List.mem_flatMap.2 ⟨x, hx, hb⟩))⟩
/-! ### what is asked -/
theorem fz_of {m : Mult} (h0 : Pl.wrong m = 0) (hl : Vd.least m = 0) : FZ m := by
  have hz := sz_of h0
  have hv := Vd.vr_of (Vd.good_of h0) (Vd.least0 hl).1
  exact ⟨hz.len, hz.poly, fun l hl r hr => ⟨hz.ring l hl r hr, hz.cd l hl r hr, by have := (hv l hl r hr).corners_three; omega⟩⟩
theorem dz_of {m : Mult} (h0 : Pl.wrong m = 0) (hl : Vd.least m = 0) : DZ m := by
  have hz := sz_of h0
  have hv := Vd.vr_of (Vd.good_of h0) (Vd.least0 hl).1
  exact ⟨hz.len, hz.poly, fun l hl r hr => ⟨by have := (hv l hl r hr).shut.len; omega, by have := hz.ring l hl r hr; omega, hz.cd l hl r hr, by have := (hv l hl r hr).cornersU_three; omega⟩⟩
theorem bd_of {m : Mult} (h0 : Pl.wrong m = 0) : Pl.Bd m := by
  have hz := sz_of h0
  exact ⟨hz.len, hz.poly, fun l hl r hr => by have := hz.ring l hl r hr; omega⟩
end Go.Proofs.YtcclepohmhdpbaaGreatDoor
