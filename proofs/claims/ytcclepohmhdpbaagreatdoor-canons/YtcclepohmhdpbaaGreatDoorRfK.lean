/- THE DOCUMENT's WAY ROUND ON THE HEAP: rows of yes and no. -/
import Derived.Test.YtcclepohmhdpbaaGreatDoorRfI
namespace Go.Proofs.YtcclepohmhdpbaaGreatDoor
set_option linter.all false
open Go.RowKit Go.Deep

theorem und_bools : Tryz.prog.underlying 196 = some (.slice 4) := by kernel_rfl
theorem info_bool : (Tryz.prog.info? 4).map (fun i => (i.zero, i.size, i.bytes)) = some (some (.bool false), 1, 1) := by kernel_rfl
theorem und_boolss : Tryz.prog.underlying 195 = some (.slice 196) := by kernel_rfl
theorem info_bools : (Tryz.prog.info? 196).map (fun i => (i.zero, i.size, i.bytes)) = some (some (.slice none 0 0), 1, 24) := by kernel_rfl
theorem el_boolss : Elem Tryz.prog 195 196 (.slice none 0 0) 1 24 := ⟨und_boolss, info_bools, rfl, by omega, by omega⟩
def bools (m : List Bool) : List Value := m.map Value.bool
theorem bools_set (m : List Bool) (i : Nat) (b : Bool) : bools (m.set i b) = (bools m).set i (.bool b) := by simp [bools]
theorem bools_at {m : List Bool} {i : Nat} {b : Bool} (h : m[i]? = some b) : (bools m)[i]? = some (.bool b) := by simp [bools, h]
theorem make_bools (n : Nat) (hn : n ≤ 2097152) (w : World) :
    (Instr.makeSlice 196 (.int .i64 (n : Int)) (.int .i64 (n : Int))).run Tryz.prog w = .ok (.slice (some ⟨w.heap.size, 0, none⟩) n n) (w.alloc (.cells (bools (List.replicate n false)).toArray 4)) := by
  rw [run_make_row' 196 4 _ 1 und_bools info_bool rfl .i64 .i64 n (by omega) (by omega) w]
  congr 3
  rw [← Array.toArray_toList (xs := madeCells _ _), toList_madeCells_one]
  congr 1
  simp [bools]

/-- a row's slice. -/
def rowV (n : Nat) (b : Nat) : List Value := [.slice (some ⟨b, 0, none⟩) n n]
/-- The table on the heap: rows at the blocks bs, as M says. -/
structure HT (base : Nat) (w : World) (hv : Value) (bs : List Nat) (M : List (List Bool)) (n : Nat) : Prop where
  own : w.ownsRow base 196 1 hv bs.length (flatG (rowV n) bs)
  len : M.length = bs.length
  row : ∀ (i b : Nat) (m : List Bool), bs[i]? = some b → M[i]? = some m → m.length = n ∧ VRow w b 4 (bools m)
  nd : bs.Nodup
  low : ∀ b ∈ bs, base ≤ b
theorem HT.nil (base : Nat) (w : World) (n : Nat) : HT base w (.slice none 0 0) [] [] n := ⟨World.ownsRow_nil _ _ _ _, rfl, fun i b m h => by simp at h, List.nodup_nil, fun b h => by simp at h⟩
theorem HT.up {base : Nat} {w w' : World} {hv : Value} {bs : List Nat} {M : List (List Bool)} {n : Nat} (h : HT base w hv bs M n) (k : Up w w') : HT base w' hv bs M n :=
  ⟨own_up h.own k, h.len, fun i b m hb hm => ⟨(h.row i b m hb hm).1, (h.row i b m hb hm).2.up k⟩, h.nd, h.low⟩
theorem HT.shape {base : Nat} {w : World} {hv : Value} {bs : List Nat} {M : List (List Bool)} {n : Nat} (h : HT base w hv bs M n) : ∃ ao cap, hv = .slice ao M.length cap := by
  obtain ⟨ao, cap, e⟩ := own_len h.own
  exact ⟨ao, cap, by rw [e, h.len]⟩
theorem HT.blk {base : Nat} {w : World} {hv : Value} {bs : List Nat} {M : List (List Bool)} {n : Nat} (h : HT base w hv bs M n) {i : Nat} {m : List Bool} (hm : M[i]? = some m) :
    ∃ b g cap, bs[i]? = some b ∧ hv = .slice (some ⟨g, 0, none⟩) M.length cap ∧ w.cell? ⟨g, i, none⟩ = some (.slice (some ⟨b, 0, none⟩) n n) ∧ m.length = n ∧ VRow w b 4 (bools m) ∧ base ≤ b := by
  obtain ⟨b, hb⟩ := Pl.some_of_lt (show i < bs.length by rw [← h.len]; exact Pl.lt_of_some hm)
  obtain ⟨ao, cap, e, hc⟩ := own_rdG (f := rowV n) (fun _ => rfl) h.own
  obtain ⟨g, rfl, hc2⟩ := hc i b hb
  have c := hc2 0 _ rfl
  obtain ⟨h1, h2⟩ := h.row i b m hb hm
  exact ⟨b, g, cap, hb, by rw [e, h.len], by simpa using c, h1, h2, h.low b (Pl.mem_of_some hb)⟩
/-- one place of the table, struck or set. -/
theorem HT.store {base : Nat} {w : World} {hv : Value} {bs : List Nat} {M : List (List Bool)} {n : Nat} (h : HT base w hv bs M n) {i b : Nat} {m : List Bool} (hb : bs[i]? = some b) (hm : M[i]? = some m) (k : Nat) (x : Bool) :
    HT base (w.setCell ⟨b, k, none⟩ (.bool x)) hv bs (M.set i (m.set k x)) n := by
  obtain ⟨h1, h2⟩ := h.row i b m hb hm
  refine ⟨own_set h.own (own_row_ne h.own h2 (by decide)) _, by rw [List.length_set]; exact h.len, ?_, h.nd, h.low⟩
  intro j c mm hc hmm
  by_cases e : j = i
  · subst e
    obtain rfl := Option.some.inj (hb.symm.trans hc)
    rw [List.getElem?_set_self (Pl.lt_of_some hm)] at hmm
    obtain rfl := Option.some.inj hmm
    refine ⟨by rw [List.length_set]; exact h1, ?_⟩
    rw [bools_set]
    exact h2.set k _
  · rw [List.getElem?_set_ne (fun e2 => e e2.symm)] at hmm
    obtain ⟨q1, q2⟩ := h.row j c mm hc hmm
    refine ⟨q1, q2.setOther ?_ _⟩
    intro e2
    refine e ?_
    simp only at e2
    subst e2
    obtain ⟨l1, e1⟩ := List.getElem?_eq_some_iff.1 hc
    obtain ⟨l2, e3⟩ := List.getElem?_eq_some_iff.1 hb
    rcases Nat.lt_trichotomy j i with q | q | q
    · exact absurd (e1.trans e3.symm) (List.pairwise_iff_getElem.1 h.nd j i l1 l2 q)
    · exact q
    · exact absurd (e3.trans e1.symm) (List.pairwise_iff_getElem.1 h.nd i j l2 l1 q)
/-- one row more. -/
theorem HT.push {base : Nat} {w w' : World} {hv hv' : Value} {bs : List Nat} {M : List (List Bool)} {n b : Nat} {m : List Bool} (h : HT base w hv bs M n) (hr : VRow w b 4 (bools m)) (hl : m.length = n) (hb : base ≤ b) (hn : b ∉ bs)
    (hg : w.grownBy w' hv.ownBlock) (ho : w'.ownsRow base 196 1 hv' (bs.length + 1) (flatG (rowV n) bs ++ rowV n b)) : HT base w' hv' (bs ++ [b]) (M ++ [m]) n := by
  refine ⟨?_, by simp [h.len], ?_, ?_, ?_⟩
  · rw [flatG_append, List.length_append]; exact ho
  · intro i c mm hc hmm
    by_cases q : i < bs.length
    · rw [List.getElem?_append_left q] at hc
      rw [List.getElem?_append_left (by rw [h.len]; exact q)] at hmm
      obtain ⟨q1, q2⟩ := h.row i c mm hc hmm
      exact ⟨q1, q2.grown hg (own_row_ne h.own q2 (by decide))⟩
    · have l1 := Pl.lt_of_some hc
      simp only [List.length_append, List.length_singleton] at l1
      have e : i = bs.length := by omega
      subst e
      rw [List.getElem?_append_right (Nat.le_refl _), Nat.sub_self] at hc
      rw [List.getElem?_append_right (by rw [h.len]; exact Nat.le_refl _), h.len, Nat.sub_self] at hmm
      cases hc
      cases hmm
      exact ⟨hl, hr.grown hg (own_row_ne h.own hr (by decide))⟩
  · rw [List.nodup_append]
    refine ⟨h.nd, by simp, ?_⟩
    intro a ha c hc
    rw [List.mem_singleton] at hc
    subst hc
    exact fun e => hn (e ▸ ha)
  · intro c hc
    rcases List.mem_append.1 hc with hc | hc
    · exact h.low c hc
    · rw [List.mem_singleton] at hc; subst hc; exact hb
/-- The table, as a function. -/
def tabM (M : List (List Bool)) (r k : Nat) : Bool := ((M[r]?).bind fun m => m[k]?).getD false
theorem tabM_at {M : List (List Bool)} {r k : Nat} {m : List Bool} {b : Bool} (hm : M[r]? = some m) (hb : m[k]? = some b) : tabM M r k = b := by unfold tabM; rw [hm]; simp [hb]
theorem tabM_strike {M : List (List Bool)} {r k : Nat} {m : List Bool} (hm : M[r]? = some m) : tabM (M.set r (m.set k false)) = Vd.strike (tabM M) r k := by
  funext s j
  unfold Vd.strike
  by_cases e : s = r
  · subst e
    unfold tabM
    rw [List.getElem?_set_self (Pl.lt_of_some hm), hm]
    by_cases e2 : j = k
    · subst e2
      rw [if_pos ⟨rfl, rfl⟩]
      by_cases c : j < m.length
      · simp [List.getElem?_set_self c]
      · have e3 : (m.set j false)[j]? = none := List.getElem?_eq_none (by rw [List.length_set]; omega)
        simp [e3]
    · rw [if_neg (fun q => e2 q.2)]
      simp [List.getElem?_set_ne (fun q => e2 q.symm)]
  · rw [if_neg (fun q => e q.1)]
    unfold tabM
    rw [List.getElem?_set_ne (fun q => e q.symm)]
/-- how many stand. -/
def cnt (M : List (List Bool)) : Nat := (M.map fun m => m.countP id).sum
/-- a ring's row. -/
def rowOf (T : List Pnt) (r : Ring) : List Bool := T.map fun p => decide (Vd.inRing r (Vd.at1 p) = 0)
theorem rowOf_at {T : List Pnt} {r : Ring} {t : Nat} {p : Pnt} (h : T[t]? = some p) : (rowOf T r)[t]? = some (decide (Vd.inRing r (Vd.at1 p) = 0)) := by unfold rowOf; rw [List.getElem?_map, h]; rfl
def fillR (m : List Bool) (t : Nat) : List Bool := m.take t ++ List.replicate (m.length - t) false
theorem fillR_zero (m : List Bool) : fillR m 0 = List.replicate m.length false := by simp [fillR]
theorem fillR_all (m : List Bool) : fillR m m.length = m := by simp [fillR]
theorem fillR_at {m : List Bool} {t : Nat} (h : t < m.length) : (fillR m t)[t]? = some false := by
  unfold fillR
  rw [List.getElem?_append_right (by rw [List.length_take]; omega), List.length_take, show t - min t m.length = 0 by omega, show m.length - t = m.length - (t + 1) + 1 by omega, List.replicate_succ]; rfl
theorem fillR_set {m : List Bool} {t : Nat} {x : Bool} (h : m[t]? = some x) : (fillR m t).set t x = fillR m (t + 1) := by
  have hl := Pl.lt_of_some h
  unfold fillR
  rw [List.set_append_right _ _ (by rw [List.length_take]; omega), List.length_take, show t - min t m.length = 0 by omega, show m.length - t = m.length - (t + 1) + 1 by omega, List.replicate_succ, List.set_cons_zero, Pl.take_one h, List.append_assoc]; rfl
theorem HT.new {base : Nat} {w : World} {hv : Value} {bs : List Nat} {M : List (List Bool)} {n : Nat} (h : HT base w hv bs M n) : w.heap.size ∉ bs := by
  intro k
  obtain ⟨i, hi, e⟩ := List.getElem_of_mem k
  have hb : bs[i]? = some w.heap.size := by rw [List.getElem?_eq_getElem hi, e]
  obtain ⟨m, hm⟩ := Pl.some_of_lt (show i < M.length by rw [h.len]; exact hi)
  have := (h.row i _ m hb hm).2.lt
  omega
end Go.Proofs.YtcclepohmhdpbaaGreatDoor
