import Derived.Test.YtcclepohmhdpbabGreatDoorClF
namespace Go.Proofs.YtcclepohmhdpbabGreatDoor
set_option linter.all false
open Go.RowKit Go.Deep
theorem fI_at {g : List Nat} {i n : Nat} (h : g[i]? = some n) : (flatG intC g)[i]? = some (.int .i64 n) := by
 have := flatG_at (f := intC) (n := 1) (fun _ => rfl) g i n 0 _ h rfl
 simpa using this
theorem fI_set (g : List Nat) : ∀ (i n : Nat), flatG intC (g.set i n) = (flatG intC g).set i (.int .i64 n) := by
  induction g with
  | nil => intro i n; rfl
  | cons a t ih =>
    intro i n
    cases i with
    | zero => rfl
    | succ i => show flatG intC (a :: t.set i n) = _; show _ :: flatG intC (t.set i n) = _; rw [ih]; rfl
theorem nAt_some {g : List Nat} {i n : Nat} (h : g[i]? = some n) : Vd.nAt g i = n := by unfold Vd.nAt; rw [List.getD_eq_getElem?_getD, h]; rfl
def tgN (g : List Nat) (o f q : Nat) : List Nat := (g.take q).map (Vd.turnG o f) ++ g.drop q
theorem tgN_at {g : List Nat} {o f q n : Nat} (h : g[q]? = some n) : (tgN g o f q)[q]? = some n := by
 unfold tgN
 have := Pl.lt_of_some h
 rw [List.getElem?_append_right (by simp; omega)]
 simp only [List.length_map, List.length_take, Nat.min_eq_left (Nat.le_of_lt this), Nat.sub_self]
 rw [List.getElem?_drop, Nat.add_zero]; exact h
theorem tgN_yes {g : List Nat} {o f q : Nat} (h : g[q]? = some o) : tgN g o f (q + 1) = (tgN g o f q).set q f := by
 unfold tgN
 have hq := Pl.lt_of_some h
 rw [Pl.take_one h, drop_at h, List.set_append_right (h := by simp; omega)]
 simp only [List.length_map, List.length_take, Nat.min_eq_left (Nat.le_of_lt hq), Nat.sub_self, List.map_append, List.map_cons, List.map_nil, List.set_cons_zero]
 rw [show Vd.turnG o f o = f from if_pos rfl]; simp
theorem tgN_no {g : List Nat} {o f q n : Nat} (h : g[q]? = some n) (hn : n ≠ o) : tgN g o f (q + 1) = tgN g o f q := by
 unfold tgN
 rw [Pl.take_one h]
 conv => rhs; rw [drop_at h]
 rw [List.map_append, List.map_cons, List.map_nil, show Vd.turnG o f n = n from if_neg hn]; simp
theorem tgN_all (g : List Nat) (o f : Nat) : tgN g o f g.length = g.map (Vd.turnG o f) := by unfold tgN; simp
theorem joinL_same {g : List Nat} {a j : Nat} {t : List Nat} (h : Vd.nAt g j = Vd.nAt g a) : Vd.joinL g a (j :: t) = none := by unfold Vd.joinL; rw [if_pos h]
theorem joinL_go {g : List Nat} {a j : Nat} {t : List Nat} (h : Vd.nAt g j ≠ Vd.nAt g a) : Vd.joinL g a (j :: t) = Vd.joinL (g.map (Vd.turnG (Vd.nAt g j) (Vd.nAt g a))) a t := by conv => lhs; unfold Vd.joinL; rw [if_neg h]
structure JN (w wr : World) (lb gb gc base jb jc : Nat) (n : Nat) (js g : List Nat) : Prop where
 fr : Fr (· = gb) w wr
 row : VRow wr lb 120 [.slice (some ⟨gb, 0, none⟩) n gc]
 own : wr.ownsRow base 3 1 (.slice (some ⟨gb, 0, none⟩) n gc) n (flatG intC g)
 len : g.length = n
 jx : ∀ (i j : Nat), js[i]? = some j → wr.cell? ⟨jb, i, none⟩ = some (.int .i64 j)
 ne : lb ≠ gb
 nj : jb ≠ gb
theorem JN.cell {w wr : World} {lb gb gc base jb jc n : Nat} {js g : List Nat} (h : JN w wr lb gb gc base jb jc n js g) {i m : Nat} (hi : g[i]? = some m) : wr.cell? ⟨gb, i, none⟩ = some (.int .i64 m) := by
 have h2 := h.own
 rw [← h.len] at h2
 obtain ⟨g', cap', e', hc⟩ := own_cell h2 (by have := Pl.lt_of_some hi; omega)
 cases e'
 exact hc i _ (fI_at hi)
theorem JN.drew {w wr : World} {lb gb gc base jb jc n : Nat} {js g : List Nat} (h : JN w wr lb gb gc base jb jc n js g) (k : Nat) : JN w (wr.drewN k) lb gb gc base jb jc n js g :=
 ⟨h.fr.drewN k, h.row, own_up h.own ((Up.refl _).drewN k), h.len, h.jx, h.ne, h.nj⟩
theorem JN.set {w wr : World} {lb gb gc base jb jc n : Nat} {js g : List Nat} (h : JN w wr lb gb gc base jb jc n js g) {i : Nat} (hi : i < n) (m : Nat) : JN w (wr.setCell ⟨gb, i, none⟩ (.int .i64 m)) lb gb gc base jb jc n js (g.set i m) := by
 refine ⟨h.fr.setCell rfl _, h.row.setOther h.ne _, ?_, by simp [h.len], fun x y hx => ?_, h.ne, h.nj⟩
 ·rw [fI_set]; exact own_stored h.own rfl hi _
 ·have := h.jx x y hx
  rw [World.cell?_of_block (Below.heap_setCell _ _ _ _ (by show jb ≠ gb; exact h.nj))]
  exact this
set_option maxHeartbeats 8000000 in
theorem join_any (lb gb gc base jb jc n : Nat) (a : Nat) (t g : List Nat) (w : World) (h0 : JN w w lb gb gc base jb jc n (a :: t) g) (hn : n ≤ 1048576) (ht : t.length < 1048576) (hj : ∀ j ∈ a :: t, j < n) :
  Calls Tryz.prog 97 #[.pointer (some ⟨lb, 0, none⟩), .slice (some ⟨jb, 0, none⟩) (t.length + 1) jc] w fun e w' => e = .returned (.bool (Vd.join g (a :: t)).isSome) ∧ Fr (· = gb) w w' ∧ ∀ g', Vd.join g (a :: t) = some g' → JN w w' lb gb gc base jb jc n (a :: t) g' := by
 have H0 := hide h0
 have HJ := hide hj
 have HE : Hid (Vd.join g (a :: t) = Vd.joinL g a t) := rfl
 clear h0 hj
 go_enter Tryz.func97, Tryz.ntmps97
 go_wp2
 go_loopw [5] (fun i wr => ∃ (k : Nat) (c : List Nat), i = .int .i64 ((k : Int) + 1) ∧ k ≤ t.length ∧ Hid (JN w wr lb gb gc base jb jc n (a :: t) c) ∧ Hid (Vd.join g (a :: t) = Vd.joinL c a (t.drop k))) (fun i _ => t.length + 1 - (intOf i).toNat)
 case atStart => exact ⟨0, g, rfl, Nat.zero_le _, H0, HE⟩
 case round =>
  obtain ⟨k, c, rfl, hk, HN, HX⟩ := hrel
  by_cases hlt : k < t.length
  ·obtain ⟨j, hj⟩ := Pl.some_of_lt hlt
   have hjn := HJ.out j (by simp [Pl.mem_of_some hj])
   have han := HJ.out a (by simp)
   have hcl := HN.out.len
   obtain ⟨mj, hmj⟩ := Pl.some_of_lt (show j < c.length by omega)
   obtain ⟨ma, hma⟩ := Pl.some_of_lt (show a < c.length by omega)
   have c0 := HN.out.row.cell (i := 0) rfl
   have c1 := HN.out.jx (k + 1) j (by simpa using hj)
   have c2 := HN.out.jx 0 a rfl
   have c3 := HN.out.cell hmj
   have c4 := HN.out.cell hma
   have HD := hide (drop_at hj)
   have Hj := hide (nAt_some hmj)
   have Ha := hide (nAt_some hma)
   have i1 : (0 : Int) ≤ (k : Int) + 1 := by omega
   have i2 : (k : Int) + 1 < (t.length : Int) + 1 := by omega
   have i3 : (0 : Int) ≤ (j : Int) := by omega
   have i4 : (j : Int) < (n : Int) := by omega
   have i5 : (0 : Int) ≤ (a : Int) := by omega
   have i6 : (a : Int) < (n : Int) := by omega
   have i7 : (0 : Int) < (t.length : Int) + 1 := by omega
   have Hcl := hide hcl
   clear hj hmj hma hcl
   go_wp2
   go_quiet (fail)
   go_wp2
   go_quiet (fail)
   have HNd := hide (fun m => HN.out.drew m)
   by_cases hm : mj = ma
   ·have HR : Hid (Vd.join g (a :: t) = none) := by rw [HX.out, HD.out]; exact joinL_same (by rw [Hj.out, Ha.out, hm])
    subst hm
    go_wp2
    go_ret
    exact ⟨ret_b (by rw [HR.out]; rfl), (HNd.out _).fr, fun g' h => by rw [HR.out] at h; cases h⟩
   ·have HR : Hid (Vd.join g (a :: t) = Vd.joinL (c.map (Vd.turnG mj ma)) a (t.drop (k + 1))) := by
     rw [HX.out, HD.out, joinL_go (by rw [Hj.out, Ha.out]; exact hm), Hj.out, Ha.out]; exact rfl
    have hm' : ((mj : Int) == (ma : Int)) = false := beq_eq_false_iff_ne.2 (by omega)
    go_wp2
    clear c0 c1 c2 c3 c4 i3 i4 i5 i6 i7 hm'
    go_loopw [43] (fun i wr => ∃ q : Nat, i = .int .i64 q ∧ q ≤ n ∧ Hid (JN w wr lb gb gc base jb jc n (a :: t) (tgN c mj ma q))) (fun i _ => n - (intOf i).toNat)
    case atStart => exact ⟨0, rfl, Nat.zero_le _, by have := HNd.out; unfold tgN; rw [List.take_zero, List.drop_zero]; exact this _⟩
    case round =>
     obtain ⟨q, rfl, hq, HQ⟩ := hrel
     by_cases hlq : q < n
     ·obtain ⟨x, hx⟩ := Pl.some_of_lt (show q < c.length by rw [Hcl.out]; exact hlq)
      have d0 := HQ.out.row.cell (i := 0) rfl
      have d1 := HQ.out.cell (tgN_at hx)
      have df := own_frozen HQ.out.own rfl
      have i8 : (q : Int) < (n : Int) := by omega
      by_cases hxm : x = mj
      ·subst hxm
       have HY := hide (tgN_yes (f := ma) hx)
       clear hx
       go_wp2
       go_roundw
       case rel => exact ⟨q + 1, by go_num, by omega, by rw [HY.out]; exact HQ.out.set hlq ma⟩
       case measure => simp [intOf]; omega
      ·have HY := hide (tgN_no (f := ma) hx hxm)
       have hxm' : ((x : Int) == (mj : Int)) = false := beq_eq_false_iff_ne.2 (by omega)
       clear hx
       go_wp2
       go_roundw
       case rel => exact ⟨q + 1, by go_num, by omega, by rw [HY.out]; exact HQ⟩
       case measure => simp [intOf]; omega
     ·have hq2 : q = c.length := by have := Hcl.out; omega
      subst hq2
      rw [tgN_all] at HQ
      go_wp2
      go_roundw
      case rel => exact ⟨k + 1, _, by go_num, by omega, HQ, HR⟩
      case measure => simp [intOf]; omega
  ·have hk2 : k = t.length := by omega
   subst hk2
   rw [List.drop_length] at HX
   have HR : Hid (Vd.join g (a :: t) = some c) := HX.out
   go_wp2
   go_ret
   exact ⟨ret_b (by rw [HR.out]; rfl), HN.out.fr, fun g' h => by rw [HR.out] at h; cases h; exact HN.out⟩
end Go.Proofs.YtcclepohmhdpbabGreatDoor
