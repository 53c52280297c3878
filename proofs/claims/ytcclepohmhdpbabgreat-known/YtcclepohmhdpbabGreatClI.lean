import Derived.Test.YtcclepohmhdpbabGreatClF
import Derived.Test.YtcclepohmhdpbabGreatPlD
/- THE WALKS: package clauses: join. -/
namespace Go.Proofs.YtcclepohmhdpbabGreat
set_option linter.all false
open Go.RowKit Go.Deep

theorem fI_at {g : List Nat} {i n : Nat} (h : g[i]? = some n) : (flatG intC g)[i]? = some (.int .i64 n) := by
  have := flatG_at (f := intC) (n := 1) (fun _ => rfl) g i n 0 _ h rfl
  simpa using this
theorem fI_len (g : List Nat) : (flatG intC g).length = g.length := by
  induction g with
  | nil => rfl
  | cons a t ih => show ([_] ++ flatG intC t).length = _; simp [ih]
theorem fI_set (g : List Nat) : ∀ (i n : Nat), flatG intC (g.set i n) = (flatG intC g).set i (.int .i64 n) := by
  induction g with
  | nil => intro i n; rfl
  | cons a t ih =>
    intro i n
    cases i with
    | zero => rfl
    | succ i => show flatG intC (a :: t.set i n) = _; show _ :: flatG intC (t.set i n) = _; rw [ih]; rfl
theorem nAt_some {g : List Nat} {i n : Nat} (h : g[i]? = some n) : Vd.nAt g i = n := by unfold Vd.nAt; rw [List.getD_eq_getElem?_getD, h]; rfl
/-- what the inner loop has made so far. -/
def tgN (g : List Nat) (o f q : Nat) : List Nat := (g.take q).map (Vd.turnG o f) ++ g.drop q
theorem tgN_len (g : List Nat) (o f q : Nat) (h : q ≤ g.length) : (tgN g o f q).length = g.length := by unfold tgN; simp; omega
theorem tgN_at {g : List Nat} {o f q n : Nat} (h : g[q]? = some n) : (tgN g o f q)[q]? = some n := by
  unfold tgN
  have := Pl.lt_of_some h
  rw [List.getElem?_append_right (by simp; omega)]
  simp only [List.length_map, List.length_take, Nat.min_eq_left (Nat.le_of_lt this), Nat.sub_self]
  rw [List.getElem?_drop, Nat.add_zero]; exact h
theorem tgN_yes {g : List Nat} {o f q : Nat} (h : g[q]? = some o) : tgN g o f (q + 1) = (tgN g o f q).set q f := by
  unfold tgN
  have hq := Pl.lt_of_some h
  rw [Pl.take_one h, drop_at h, List.set_append_right (h := by simp; omega)]
  simp only [List.length_map, List.length_take, Nat.min_eq_left (Nat.le_of_lt hq), Nat.sub_self, List.map_append, List.map_cons, List.map_nil, List.set_cons_zero]
  rw [show Vd.turnG o f o = f from if_pos rfl]; simp
theorem tgN_no {g : List Nat} {o f q n : Nat} (h : g[q]? = some n) (hn : n ≠ o) : tgN g o f (q + 1) = tgN g o f q := by
  unfold tgN
  rw [Pl.take_one h]
  conv => rhs; rw [drop_at h]
  rw [List.map_append, List.map_cons, List.map_nil, show Vd.turnG o f n = n from if_neg hn]; simp
theorem tgN_all (g : List Nat) (o f : Nat) : tgN g o f g.length = g.map (Vd.turnG o f) := by unfold tgN; simp
theorem joinL_same {g : List Nat} {a j : Nat} {t : List Nat} (h : Vd.nAt g j = Vd.nAt g a) : Vd.joinL g a (j :: t) = none := by unfold Vd.joinL; rw [if_pos h]
theorem joinL_go {g : List Nat} {a j : Nat} {t : List Nat} (h : Vd.nAt g j ≠ Vd.nAt g a) : Vd.joinL g a (j :: t) = Vd.joinL (g.map (Vd.turnG (Vd.nAt g j) (Vd.nAt g a))) a t := by conv => lhs; unfold Vd.joinL; rw [if_neg h]

/-- what join holds: the struct, its groups, those that are joined. -/
structure JN (w wr : World) (lb gb gc base jb jc : Nat) (n : Nat) (js g : List Nat) : Prop where
  fr : Fr (· = gb) w wr
  row : VRow wr lb 81 [.slice (some ⟨gb, 0, none⟩) n gc]
  own : wr.ownsRow base 3 1 (.slice (some ⟨gb, 0, none⟩) n gc) n (flatG intC g)
  len : g.length = n
  jx : ∀ (i j : Nat), js[i]? = some j → wr.cell? ⟨jb, i, none⟩ = some (.int .i64 j)
  ne : lb ≠ gb
  nj : jb ≠ gb
theorem JN.cell {w wr : World} {lb gb gc base jb jc n : Nat} {js g : List Nat} (h : JN w wr lb gb gc base jb jc n js g) {i m : Nat} (hi : g[i]? = some m) : wr.cell? ⟨gb, i, none⟩ = some (.int .i64 m) := by
  have h2 := h.own
  rw [← h.len] at h2
  obtain ⟨g', cap', e', hc⟩ := own_cell h2 (by have := Pl.lt_of_some hi; omega)
  cases e'
  exact hc i _ (fI_at hi)
theorem JN.drew {w wr : World} {lb gb gc base jb jc n : Nat} {js g : List Nat} (h : JN w wr lb gb gc base jb jc n js g) (k : Nat) : JN w (wr.drewN k) lb gb gc base jb jc n js g :=
  ⟨h.fr.drewN k, h.row, own_up h.own ((Up.refl _).drewN k), h.len, h.jx, h.ne, h.nj⟩
theorem JN.set {w wr : World} {lb gb gc base jb jc n : Nat} {js g : List Nat} (h : JN w wr lb gb gc base jb jc n js g) {i : Nat} (hi : i < n) (m : Nat) : JN w (wr.setCell ⟨gb, i, none⟩ (.int .i64 m)) lb gb gc base jb jc n js (g.set i m) := by
  refine ⟨h.fr.setCell rfl _, h.row.setOther h.ne _, ?_, by simp [h.len], fun x y hx => ?_, h.ne, h.nj⟩
  · rw [fI_set]; exact own_stored h.own rfl hi _
  · have := h.jx x y hx
    rw [World.cell?_of_block (Below.heap_setCell _ _ _ _ (by show jb ≠ gb; exact h.nj))]
    exact this

set_option maxHeartbeats 8000000 in
theorem join_any (lb gb gc base jb jc n : Nat) (a : Nat) (t g : List Nat) (w : World) (h0 : JN w w lb gb gc base jb jc n (a :: t) g) (hn : n ≤ 1048576) (ht : t.length < 1048576) (hj : ∀ j ∈ a :: t, j < n) :
    Calls Tryz.prog 61 #[.pointer (some ⟨lb, 0, none⟩), .slice (some ⟨jb, 0, none⟩) (t.length + 1) jc] w fun e w' => e = .returned (.bool (Vd.join g (a :: t)).isSome) ∧ Fr (· = gb) w w' ∧ ∀ g', Vd.join g (a :: t) = some g' → JN w w' lb gb gc base jb jc n (a :: t) g' := by
  have H0 := hide h0
  have HJ := hide hj
  have HE : Hid (Vd.join g (a :: t) = Vd.joinL g a t) := rfl
  clear h0 hj
  go_enter Tryz.func61, Tryz.ntmps61
  go_wp2
  go_loopw [5] (fun i wr => ∃ (k : Nat) (c : List Nat), i = .int .i64 ((k : Int) + 1) ∧ k ≤ t.length ∧ Hid (JN w wr lb gb gc base jb jc n (a :: t) c) ∧ Hid (Vd.join g (a :: t) = Vd.joinL c a (t.drop k))) (fun i _ => t.length + 1 - (intOf i).toNat)
  case atStart => exact ⟨0, g, rfl, Nat.zero_le _, H0, HE⟩
  case round =>
    obtain ⟨k, c, rfl, hk, HN, HX⟩ := hrel
    by_cases hlt : k < t.length
    · obtain ⟨j, hj⟩ := Pl.some_of_lt hlt
      have hjn := HJ.out j (by simp [Pl.mem_of_some hj])
      have han := HJ.out a (by simp)
      have hcl := HN.out.len
      obtain ⟨mj, hmj⟩ := Pl.some_of_lt (show j < c.length by omega)
      obtain ⟨ma, hma⟩ := Pl.some_of_lt (show a < c.length by omega)
      have c0 := HN.out.row.cell (i := 0) rfl
      have c1 := HN.out.jx (k + 1) j (by simpa using hj)
      have c2 := HN.out.jx 0 a rfl
      have c3 := HN.out.cell hmj
      have c4 := HN.out.cell hma
      have HD := hide (drop_at hj)
      have Hj := hide (nAt_some hmj)
      have Ha := hide (nAt_some hma)
      have i1 : (0 : Int) ≤ (k : Int) + 1 := by omega
      have i2 : (k : Int) + 1 < (t.length : Int) + 1 := by omega
      have i3 : (0 : Int) ≤ (j : Int) := by omega
      have i4 : (j : Int) < (n : Int) := by omega
      have i5 : (0 : Int) ≤ (a : Int) := by omega
      have i6 : (a : Int) < (n : Int) := by omega
      have i7 : (0 : Int) < (t.length : Int) + 1 := by omega
      have Hcl := hide hcl
      clear hj hmj hma hcl
      go_wp2
      go_quiet (fail)
      go_wp2
      go_quiet (fail)
      have HNd := hide (fun m => HN.out.drew m)
      by_cases hm : mj = ma
      · have HR : Hid (Vd.join g (a :: t) = none) := by rw [HX.out, HD.out]; exact joinL_same (by rw [Hj.out, Ha.out, hm])
        subst hm
        go_wp2
        go_ret
        exact ⟨ret_b (by rw [HR.out]; rfl), (HNd.out _).fr, fun g' h => by rw [HR.out] at h; cases h⟩
      · have HR : Hid (Vd.join g (a :: t) = Vd.joinL (c.map (Vd.turnG mj ma)) a (t.drop (k + 1))) := by
          rw [HX.out, HD.out, joinL_go (by rw [Hj.out, Ha.out]; exact hm), Hj.out, Ha.out]; exact rfl
        have hm' : ((mj : Int) == (ma : Int)) = false := beq_eq_false_iff_ne.2 (by omega)
        go_wp2
        clear c0 c1 c2 c3 c4 i3 i4 i5 i6 i7 hm'
        go_loopw [43] (fun i wr => ∃ q : Nat, i = .int .i64 q ∧ q ≤ n ∧ Hid (JN w wr lb gb gc base jb jc n (a :: t) (tgN c mj ma q))) (fun i _ => n - (intOf i).toNat)
        case atStart => exact ⟨0, rfl, Nat.zero_le _, by have := HNd.out; unfold tgN; rw [List.take_zero, List.drop_zero]; exact this _⟩
        case round =>
          obtain ⟨q, rfl, hq, HQ⟩ := hrel
          by_cases hlq : q < n
          · obtain ⟨x, hx⟩ := Pl.some_of_lt (show q < c.length by rw [Hcl.out]; exact hlq)
            have d0 := HQ.out.row.cell (i := 0) rfl
            have d1 := HQ.out.cell (tgN_at hx)
            have df := own_frozen HQ.out.own rfl
            have i8 : (q : Int) < (n : Int) := by omega
            by_cases hxm : x = mj
            · subst hxm
              have HY := hide (tgN_yes (f := ma) hx)
              clear hx
              go_wp2
              go_roundw
              case rel => exact ⟨q + 1, by go_num, by omega, by rw [HY.out]; exact HQ.out.set hlq ma⟩
              case measure => simp [intOf]; omega
            · have HY := hide (tgN_no (f := ma) hx hxm)
              have hxm' : ((x : Int) == (mj : Int)) = false := beq_eq_false_iff_ne.2 (by omega)
              clear hx
              go_wp2
              go_roundw
              case rel => exact ⟨q + 1, by go_num, by omega, by rw [HY.out]; exact HQ⟩
              case measure => simp [intOf]; omega
          · have hq2 : q = c.length := by have := Hcl.out; omega
            subst hq2
            rw [tgN_all] at HQ
            go_wp2
            go_roundw
            case rel => exact ⟨k + 1, _, by go_num, by omega, HQ, HR⟩
            case measure => simp [intOf]; omega
    · have hk2 : k = t.length := by omega
      subst hk2
      rw [List.drop_length] at HX
      have HR : Hid (Vd.join g (a :: t) = some c) := HX.out
      go_wp2
      go_ret
      exact ⟨ret_b (by rw [HR.out]; rfl), HN.out.fr, fun g' h => by rw [HR.out] at h; cases h; exact HN.out⟩
end Go.Proofs.YtcclepohmhdpbabGreat

/- VALIDITY, PLAINLY: a way round, just if something is left (G5): the program's side. -/
namespace Go.Proofs.YtcclepohmhdpbabGreat
set_option linter.all false
namespace Vd

theorem nAt_map {g : List Nat} {f : Nat → Nat} {i : Nat} (h : i < g.length) : nAt (g.map f) i = f (nAt g i) := by
  unfold nAt; simp [List.getD_eq_getElem?_getD, List.getElem?_eq_getElem h]

/-- labels that were turned: which were the same. -/
theorem turn_eq {o f x y : Nat} (h : turnG o f x = turnG o f y) : x = y ∨ ((x = o ∨ x = f) ∧ (y = o ∨ y = f)) := by
  unfold turnG at h; split at h <;> split at h <;> omega

theorem joinL_ok : ∀ (js : List Nat) (g : List Nat) (a : Nat) (g' : List Nat), a < g.length → (∀ j ∈ js, j < g.length) → joinL g a js = some g' →
    g'.length = g.length ∧ (∀ x y, x < g.length → y < g.length → nAt g x = nAt g y → nAt g' x = nAt g' y) ∧ (∀ j ∈ js, nAt g' j = nAt g' a) ∧ (∀ j ∈ js, nAt g j ≠ nAt g a) ∧ js.Pairwise (fun i j => nAt g i ≠ nAt g j) := by
  intro js
  induction js with
  | nil =>
    intro g a g' _ _ h
    simp only [joinL, Option.some.injEq] at h
    subst h
    exact ⟨rfl, fun _ _ _ _ e => e, by simp, by simp, List.Pairwise.nil⟩
  | cons j t ih =>
    intro g a g' ha hj h
    unfold joinL at h
    split at h
    · cases h
    · rename_i hne
      have hjl := hj j (by simp)
      have key := ih _ a g' (by simpa using ha) (by intro x hx; simpa using hj x (by simp [hx])) h
      obtain ⟨k1, k2, k3, k4, k5⟩ := key
      simp only [List.length_map] at k1 k2
      have m : ∀ x, x < g.length → nAt (g.map (turnG (nAt g j) (nAt g a))) x = turnG (nAt g j) (nAt g a) (nAt g x) := fun x hx => nAt_map hx
      have ma : turnG (nAt g j) (nAt g a) (nAt g a) = nAt g a := by unfold turnG; rw [if_neg (Ne.symm hne)]
      have mj : turnG (nAt g j) (nAt g a) (nAt g j) = nAt g a := by unfold turnG; rw [if_pos rfl]
      have kt : ∀ i ∈ t, nAt g i ≠ nAt g a ∧ nAt g i ≠ nAt g j := by
        intro i hi
        have hil := hj i (by simp [hi])
        have := k4 i hi
        rw [m i hil, m a ha, ma] at this
        constructor
        · intro e; rw [e, ma] at this; exact this rfl
        · intro e; rw [e, mj] at this; exact this rfl
      refine ⟨k1, ?_, ?_, ?_, ?_⟩
      · intro x y hx hy e
        refine k2 x y hx hy ?_
        rw [m x hx, m y hy, e]
      · intro i hi
        rcases List.mem_cons.1 hi with rfl | hi
        · refine k2 _ _ hjl ha ?_
          rw [m _ hjl, m a ha, mj, ma]
        · exact k3 i hi
      · intro i hi
        rcases List.mem_cons.1 hi with rfl | hi
        · exact hne
        · exact (kt i hi).1
      · refine List.Pairwise.cons (fun i hi => Ne.symm (kt i hi).2) ?_
        refine List.Pairwise.imp_of_mem ?_ k5
        intro x y hx hy e e2
        rw [m x (hj x (by simp [hx])), m y (hj y (by simp [hy])), e2] at e
        exact e rfl

theorem joinL_back : ∀ (js : List Nat) (g : List Nat) (a : Nat) (g' : List Nat), a < g.length → (∀ j ∈ js, j < g.length) → joinL g a js = some g' →
    ∀ x y, x < g.length → y < g.length → nAt g' x = nAt g' y → nAt g x = nAt g y ∨ ∃ u ∈ a :: js, ∃ v ∈ a :: js, nAt g u = nAt g x ∧ nAt g v = nAt g y := by
  intro js
  induction js with
  | nil =>
    intro g a g' _ _ h x y _ _ e
    simp only [joinL, Option.some.injEq] at h
    subst h
    exact .inl e
  | cons j t ih =>
    intro g a g' ha hj h x y hx hy e
    unfold joinL at h
    split at h
    · cases h
    · rename_i hne
      have hjl := hj j (by simp)
      have m : ∀ x, x < g.length → nAt (g.map (turnG (nAt g j) (nAt g a))) x = turnG (nAt g j) (nAt g a) (nAt g x) := fun x hx => nAt_map hx
      have key := ih _ a g' (by simpa using ha) (by intro x hx; simpa using hj x (by simp [hx])) h x y (by simpa using hx) (by simpa using hy) e
      have up : ∀ u ∈ a :: t, ∀ z, z < g.length → nAt (g.map (turnG (nAt g j) (nAt g a))) u = nAt (g.map (turnG (nAt g j) (nAt g a))) z → ∃ u' ∈ a :: j :: t, nAt g u' = nAt g z := by
        intro u hu z hz e
        have hul : u < g.length := by
          rcases List.mem_cons.1 hu with rfl | hu
          · exact ha
          · exact hj u (by simp [hu])
        rw [m u hul, m z hz] at e
        rcases turn_eq e with e | ⟨_, e | e⟩
        · refine ⟨u, ?_, e⟩
          rcases List.mem_cons.1 hu with rfl | hu
          · simp
          · simp [hu]
        · exact ⟨j, by simp, e.symm⟩
        · exact ⟨a, by simp, e.symm⟩
      rcases key with k | ⟨u, hu, v, hv, k1, k2⟩
      · rw [m x hx, m y hy] at k
        rcases turn_eq k with k | ⟨k1, k2⟩
        · exact .inl k
        · right
          have one : ∀ z, (nAt g z = nAt g j ∨ nAt g z = nAt g a) → ∃ u ∈ a :: j :: t, nAt g u = nAt g z := by
            rintro z (e | e)
            · exact ⟨j, by simp, e.symm⟩
            · exact ⟨a, by simp, e.symm⟩
          obtain ⟨u, hu, e1⟩ := one x k1
          obtain ⟨v, hv, e2⟩ := one y k2
          exact ⟨u, hu, v, hv, e1, e2⟩
      · right
        obtain ⟨u', hu', e1⟩ := up u hu x hx k1
        obtain ⟨v', hv', e2⟩ := up v hv y hy k2
        exact ⟨u', hu', v', hv', e1, e2⟩

theorem joinL_none : ∀ (js : List Nat) (g : List Nat) (a : Nat), a < g.length → (∀ j ∈ js, j < g.length) → (a :: js).Nodup → joinL g a js = none →
    ∃ u ∈ a :: js, ∃ v ∈ a :: js, u ≠ v ∧ nAt g u = nAt g v := by
  intro js
  induction js with
  | nil => intro g a _ _ _ h; cases h
  | cons j t ih =>
    intro g a ha hj hnd h
    have hjl := hj j (by simp)
    have haj : a ≠ j := fun e => (List.nodup_cons.1 hnd).1 (by simp [e])
    have hjt : j ∉ t := (List.nodup_cons.1 (List.nodup_cons.1 hnd).2).1
    unfold joinL at h
    split at h
    · rename_i e
      exact ⟨j, by simp, a, by simp, Ne.symm haj, e⟩
    · rename_i hne
      have m : ∀ x, x < g.length → nAt (g.map (turnG (nAt g j) (nAt g a))) x = turnG (nAt g j) (nAt g a) (nAt g x) := fun x hx => nAt_map hx
      have hnd' : (a :: t).Nodup := by
        rw [List.nodup_cons] at hnd ⊢
        exact ⟨fun e => hnd.1 (by simp [e]), (List.nodup_cons.1 hnd.2).2⟩
      obtain ⟨u, hu, v, hv, huv, e⟩ := ih _ a (by simpa using ha) (by intro x hx; simpa using hj x (by simp [hx])) hnd' h
      have lt : ∀ x ∈ a :: t, x < g.length := by
        intro x hx
        rcases List.mem_cons.1 hx with rfl | hx
        · exact ha
        · exact hj x (by simp [hx])
      have inn : ∀ x ∈ a :: t, x ∈ a :: j :: t := by
        intro x hx
        rcases List.mem_cons.1 hx with rfl | hx
        · simp
        · simp [hx]
      have far : ∀ x ∈ a :: t, nAt g x = nAt g j → ∃ u ∈ a :: j :: t, ∃ v ∈ a :: j :: t, u ≠ v ∧ nAt g u = nAt g v := by
        intro x hx e
        refine ⟨x, inn x hx, j, by simp, ?_, e⟩
        rintro rfl
        rcases List.mem_cons.1 hx with e | e
        · exact haj e.symm
        · exact hjt e
      rw [m u (lt u hu), m v (lt v hv)] at e
      rcases turn_eq e with e | ⟨e1 | e1, e2 | e2⟩
      · exact ⟨u, inn u hu, v, inn v hv, huv, e⟩
      · exact far u hu e1
      · exact far u hu e1
      · exact far v hv e2
      · exact ⟨u, inn u hu, v, inn v hv, huv, by rw [e1, e2]⟩

/-! ### Cores -/
abbrev Inc := Nat → Pnt → Prop
/-- Each point of F has another ring, and each ring but x and y another point. -/
structure Near (F : Inc) (x y : Nat) : Prop where
  pt : ∀ r p, F r p → ∃ r', r' ≠ r ∧ F r' p
  ring : ∀ r p, F r p → r ≠ x → r ≠ y → ∃ p', p' ≠ p ∧ F r p'
structure Core (F : Inc) : Prop where
  pt : ∀ r p, F r p → ∃ r', r' ≠ r ∧ F r' p
  ring : ∀ r p, F r p → ∃ p', p' ≠ p ∧ F r p'

structure At (n : Nat) (E : Inc) (at_ : Pnt → List Nat) : Prop where
  mem : ∀ r p, r ∈ at_ p ↔ r < n ∧ E r p
  nd : ∀ p, (at_ p).Nodup

theorem pw_all {f : Nat → Nat} {l : List Nat} (h : l.Pairwise (fun i j => f i ≠ f j)) : ∀ x y, x ∈ l → y ∈ l → x ≠ y → f x ≠ f y := by
  induction h with
  | nil => intro x y hx; cases hx
  | cons h1 _ ih =>
    intro x y hx hy hxy
    rcases List.mem_cons.1 hx with e1 | e1 <;> rcases List.mem_cons.1 hy with e2 | e2
    · exact absurd (e1.trans e2.symm) hxy
    · rw [e1]; exact h1 y e2
    · rw [e2]; exact Ne.symm (h1 x e1)
    · exact ih x y e1 e2 hxy

theorem join_cases {n : Nat} {E : Inc} {at_ : Pnt → List Nat} (hA : At n E at_) (p : Pnt) (g : List Nat) (hg : g.length = n) :
    (∀ g', join g (at_ p) = some g' → g'.length = n ∧ (∀ x y, x < n → y < n → nAt g x = nAt g y → nAt g' x = nAt g' y) ∧ (∀ a b, a ∈ at_ p → b ∈ at_ p → nAt g' a = nAt g' b) ∧
      (∀ a b, a ∈ at_ p → b ∈ at_ p → a ≠ b → nAt g a ≠ nAt g b) ∧ (∀ x y, x < n → y < n → nAt g' x = nAt g' y → nAt g x = nAt g y ∨ ∃ u ∈ at_ p, ∃ v ∈ at_ p, nAt g u = nAt g x ∧ nAt g v = nAt g y)) ∧
    (join g (at_ p) = none → ∃ u ∈ at_ p, ∃ v ∈ at_ p, u ≠ v ∧ nAt g u = nAt g v) := by
  have hnd := hA.nd p
  have hlt : ∀ j ∈ at_ p, j < g.length := fun j hj => by rw [hg]; exact ((hA.mem j p).1 hj).1
  cases hp : at_ p with
  | nil =>
    refine ⟨fun g' h => ?_, fun h => by cases h⟩
    simp only [join, Option.some.injEq] at h
    subst h
    exact ⟨hg, fun _ _ _ _ e => e, by simp, by simp, fun _ _ _ _ e => .inl e⟩
  | cons a t =>
    rw [hp] at hnd hlt
    have ha := hlt a (by simp)
    have ht : ∀ j ∈ t, j < g.length := fun j hj => hlt j (by simp [hj])
    refine ⟨fun g' h => ?_, fun h => joinL_none t g a ha ht hnd h⟩
    obtain ⟨k1, k2, k3, k4, k5⟩ := joinL_ok t g a g' ha ht h
    have k6 := joinL_back t g a g' ha ht h
    rw [hg] at k1 k2 k6
    refine ⟨k1, k2, ?_, ?_, k6⟩
    · have one : ∀ x ∈ a :: t, nAt g' x = nAt g' a := by
        intro x hx
        rcases List.mem_cons.1 hx with rfl | hx
        · rfl
        · exact k3 x hx
      intro x y hx hy
      rw [one x hx, one y hy]
    · intro x y hx hy hxy
      rcases List.mem_cons.1 hx with h1 | h1 <;> rcases List.mem_cons.1 hy with h2 | h2
      · exact absurd (h1.trans h2.symm) hxy
      · rw [h1]; exact Ne.symm (k4 y h2)
      · rw [h2]; exact k4 x h1
      · exact pw_all k5 x y h1 h2 hxy

/-- What is known once the points of Q are joined. -/
structure Jd (n : Nat) (E : Inc) (Q : Pnt → Prop) (g : List Nat) : Prop where
  len : g.length = n
  one : ∀ p, Q p → ∀ a b, a < n → b < n → E a p → E b p → nAt g a = nAt g b
  no : ∀ F : Inc, (∀ r p, F r p → r < n ∧ E r p ∧ Q p) → ∀ x, Near F x x → ∀ r p, ¬ F r p
  good : ∀ a b, a < n → b < n → a ≠ b → nAt g a = nAt g b → ∃ F : Inc, (∀ r p, F r p → r < n ∧ E r p ∧ Q p) ∧ Near F a b ∧ (∃ p, F a p) ∧ (∃ p, F b p)

theorem Jd.step {n : Nat} {E : Inc} {at_ : Pnt → List Nat} (hA : At n E at_) {Q : Pnt → Prop} {g g' : List Nat} (h : Jd n E Q g) {p : Pnt} (hp : ¬ Q p) (hj : join g (at_ p) = some g') :
    Jd n E (fun q => Q q ∨ q = p) g' := by
  obtain ⟨k1, k2, k3, k4, k5⟩ := (join_cases hA p g h.len).1 g' hj
  refine ⟨k1, ?_, ?_, ?_⟩
  · rintro q (hq | rfl) a b ha hb ea eb
    · exact k2 a b ha hb (h.one q hq a b ha hb ea eb)
    · exact k3 a b ((hA.mem a q).2 ⟨ha, ea⟩) ((hA.mem b q).2 ⟨hb, eb⟩)
  · intro F hF x hN r0 p0 h0
    by_cases hu : ∃ r, F r p
    · obtain ⟨a, ha⟩ := hu
      obtain ⟨b, hba, hb⟩ := hN.pt a p ha
      have ea := hF a p ha
      have eb := hF b p hb
      have hne := k4 a b ((hA.mem a p).2 ⟨ea.1, ea.2.1⟩) ((hA.mem b p).2 ⟨eb.1, eb.2.1⟩) (Ne.symm hba)
      have key : ∀ c, F c p → nAt g c ≠ nAt g x → False := by
        intro c hc hcx
        have ec := hF c p hc
        have hcx' : c ≠ x := fun e => hcx (by rw [e])
        obtain ⟨q, hq, hcq⟩ := hN.ring c p hc hcx' hcx'
        refine h.no (fun r q => F r q ∧ q ≠ p ∧ nAt g r = nAt g c) ?_ c ⟨?_, ?_⟩ c q ⟨hcq, hq, rfl⟩
        · rintro r q ⟨h1, h2, -⟩
          obtain ⟨g1, g2, g3⟩ := hF r q h1
          rcases g3 with g3 | g3
          · exact ⟨g1, g2, g3⟩
          · exact absurd g3 h2
        · rintro r q ⟨h1, h2, h3⟩
          obtain ⟨r', e, h4⟩ := hN.pt r q h1
          have a1 := hF r q h1
          have a2 := hF r' q h4
          have hQ : Q q := by rcases a1.2.2 with t | t; exact t; exact absurd t h2
          exact ⟨r', e, h4, h2, by rw [← h3]; exact h.one q hQ r' r a2.1 a1.1 a2.2.1 a1.2.1⟩
        · rintro r q ⟨h1, h2, h3⟩ hr _
          have hrx : r ≠ x := fun e => hcx (by rw [← e, h3])
          obtain ⟨q', e, h4⟩ := hN.ring r q h1 hrx hrx
          refine ⟨q', e, h4, ?_, h3⟩
          rintro rfl
          have a1 := hF r q' h4
          exact k4 r c ((hA.mem r q').2 ⟨a1.1, a1.2.1⟩) ((hA.mem c q').2 ⟨ec.1, ec.2.1⟩) hr h3
      by_cases hax : nAt g a = nAt g x
      · exact key b hb (fun e => hne (by rw [hax, e]))
      · exact key a ha hax
    · refine h.no F ?_ x hN r0 p0 h0
      intro r q hq
      obtain ⟨g1, g2, g3⟩ := hF r q hq
      rcases g3 with g3 | rfl
      · exact ⟨g1, g2, g3⟩
      · exact absurd ⟨r, hq⟩ hu
  · intro a b ha hb hab e
    have wide : ∀ F : Inc, (∀ r p, F r p → r < n ∧ E r p ∧ Q p) → ∀ r q, F r q → r < n ∧ E r q ∧ (Q q ∨ q = p) := fun F hF r q hq => ⟨(hF r q hq).1, (hF r q hq).2.1, .inl (hF r q hq).2.2⟩
    by_cases e0 : nAt g a = nAt g b
    · obtain ⟨F, h1, h2, h3, h4⟩ := h.good a b ha hb hab e0
      exact ⟨F, wide F h1, h2, h3, h4⟩
    · rcases k5 a b ha hb e with e1 | ⟨u, hu, v, hv, e1, e2⟩
      · exact absurd e1 e0
      have eu := (hA.mem u p).1 hu
      have ev := (hA.mem v p).1 hv
      have huv : u ≠ v := by rintro rfl; exact e0 (e1.symm.trans e2)
      -- what joins c to its ring z at p
      have arm : ∀ z c, z < n → c < n → nAt g z = nAt g c → ∃ F : Inc, (∀ r q, F r q → r < n ∧ E r q ∧ Q q) ∧ (∀ r q, F r q → ∃ r', r' ≠ r ∧ F r' q) ∧ (∀ r q, F r q → r ≠ z → r ≠ c → ∃ q', q' ≠ q ∧ F r q') ∧ (z ≠ c → (∃ q, F z q) ∧ (∃ q, F c q)) := by
        intro z c hz hc ezc
        by_cases zc : z = c
        · exact ⟨fun _ _ => False, by simp, by simp, by simp, fun t => absurd zc t⟩
        · obtain ⟨F, h1, h2, h3, h4⟩ := h.good z c hz hc zc ezc
          exact ⟨F, h1, h2.pt, h2.ring, fun _ => ⟨h3, h4⟩⟩
      obtain ⟨F, f1, f2, f3, f4⟩ := arm u a eu.1 ha e1
      obtain ⟨G, g1, g2, g3, g4⟩ := arm v b ev.1 hb e2
      refine ⟨fun r q => F r q ∨ G r q ∨ (q = p ∧ (r = u ∨ r = v)), ?_, ⟨?_, ?_⟩, ?_, ?_⟩
      · rintro r q (t | t | ⟨rfl, rfl | rfl⟩)
        · exact wide F f1 r q t
        · exact wide G g1 r q t
        · exact ⟨eu.1, eu.2, .inr rfl⟩
        · exact ⟨ev.1, ev.2, .inr rfl⟩
      · rintro r q (t | t | ⟨rfl, rfl | rfl⟩)
        · obtain ⟨r', e, t'⟩ := f2 r q t; exact ⟨r', e, .inl t'⟩
        · obtain ⟨r', e, t'⟩ := g2 r q t; exact ⟨r', e, .inr (.inl t')⟩
        · exact ⟨v, Ne.symm huv, .inr (.inr ⟨rfl, .inr rfl⟩)⟩
        · exact ⟨u, huv, .inr (.inr ⟨rfl, .inl rfl⟩)⟩
      · have atU : ∀ q, q ≠ p → ∃ q', q' ≠ q ∧ (F u q' ∨ G u q' ∨ (q' = p ∧ (u = u ∨ u = v))) := fun q hq => ⟨p, Ne.symm hq, .inr (.inr ⟨rfl, .inl rfl⟩)⟩
        have atV : ∀ q, q ≠ p → ∃ q', q' ≠ q ∧ (F v q' ∨ G v q' ∨ (q' = p ∧ (v = u ∨ v = v))) := fun q hq => ⟨p, Ne.symm hq, .inr (.inr ⟨rfl, .inr rfl⟩)⟩
        rintro r q (t | t | ⟨rfl, rfl | rfl⟩) hra hrb
        · have hq : q ≠ p := fun e => hp (e ▸ (f1 r q t).2.2)
          by_cases ru : r = u
          · subst ru; exact atU q hq
          · obtain ⟨q', e, t'⟩ := f3 r q t ru hra; exact ⟨q', e, .inl t'⟩
        · have hq : q ≠ p := fun e => hp (e ▸ (g1 r q t).2.2)
          by_cases rv : r = v
          · subst rv; exact atV q hq
          · obtain ⟨q', e, t'⟩ := g3 r q t rv hrb; exact ⟨q', e, .inr (.inl t')⟩
        · obtain ⟨q', t'⟩ := (f4 hra).1
          exact ⟨q', fun e => hp (e ▸ (f1 r q' t').2.2), .inl t'⟩
        · obtain ⟨q', t'⟩ := (g4 hrb).1
          exact ⟨q', fun e => hp (e ▸ (g1 r q' t').2.2), .inr (.inl t')⟩
      · by_cases ua : u = a
        · exact ⟨p, .inr (.inr ⟨rfl, .inl ua.symm⟩)⟩
        · obtain ⟨q, t⟩ := (f4 ua).2; exact ⟨q, .inl t⟩
      · by_cases vb : v = b
        · exact ⟨p, .inr (.inr ⟨rfl, .inr vb.symm⟩)⟩
        · obtain ⟨q, t⟩ := (g4 vb).2; exact ⟨q, .inr (.inl t)⟩

/-- Joined at a point that lies on two of one group: a core. -/
theorem Jd.core {n : Nat} {E : Inc} {at_ : Pnt → List Nat} (hA : At n E at_) {Q : Pnt → Prop} {g : List Nat} (h : Jd n E Q g) {p : Pnt} (hp : ¬ Q p) (hj : join g (at_ p) = none) :
    ∃ F : Inc, (∀ r q, F r q → r < n ∧ E r q ∧ (Q q ∨ q = p)) ∧ Core F ∧ ∃ r q, F r q := by
  obtain ⟨u, hu, v, hv, huv, e⟩ := (join_cases hA p g h.len).2 hj
  have eu := (hA.mem u p).1 hu
  have ev := (hA.mem v p).1 hv
  obtain ⟨F, h1, h2, ⟨qu, h3⟩, ⟨qv, h4⟩⟩ := h.good u v eu.1 ev.1 huv e
  have np : ∀ r q, F r q → q ≠ p := fun r q t e => hp (e ▸ (h1 r q t).2.2)
  refine ⟨fun r q => F r q ∨ (q = p ∧ (r = u ∨ r = v)), ?_, ⟨?_, ?_⟩, u, p, .inr ⟨rfl, .inl rfl⟩⟩
  · rintro r q (t | ⟨rfl, rfl | rfl⟩)
    · exact ⟨(h1 r q t).1, (h1 r q t).2.1, .inl (h1 r q t).2.2⟩
    · exact ⟨eu.1, eu.2, .inr rfl⟩
    · exact ⟨ev.1, ev.2, .inr rfl⟩
  · rintro r q (t | ⟨rfl, rfl | rfl⟩)
    · obtain ⟨r', e, t'⟩ := h2.pt r q t; exact ⟨r', e, .inl t'⟩
    · exact ⟨v, Ne.symm huv, .inr ⟨rfl, .inr rfl⟩⟩
    · exact ⟨u, huv, .inr ⟨rfl, .inl rfl⟩⟩
  · rintro r q (t | ⟨rfl, rfl | rfl⟩)
    · by_cases ru : r = u
      · exact ⟨p, Ne.symm (np r q t), .inr ⟨rfl, .inl ru⟩⟩
      · by_cases rv : r = v
        · exact ⟨p, Ne.symm (np r q t), .inr ⟨rfl, .inr rv⟩⟩
        · obtain ⟨q', e, t'⟩ := h2.ring r q t ru rv; exact ⟨q', e, .inl t'⟩
    · exact ⟨qu, np _ qu h3, .inl h3⟩
    · exact ⟨qv, np _ qv h4, .inl h4⟩
end Vd
end Go.Proofs.YtcclepohmhdpbabGreat

/- VALIDITY, PLAINLY: a way round, just if there is a core (G5): the program's whole. -/
namespace Go.Proofs.YtcclepohmhdpbabGreat
set_option linter.all false
namespace Vd
def incL (l : Poly) : Inc := fun r p => place (rAt l r) (at1 p) = 1
theorem at_ringsAt (l : Poly) : At l.length (incL l) (ringsAt l) where
  mem := by
    intro r p
    unfold ringsAt incL
    simp
  nd := by
    intro p
    unfold ringsAt
    exact List.Pairwise.filter _ (List.nodup_range)
theorem Jd.mono {n : Nat} {E : Inc} {Q Q' : Pnt → Prop} {g : List Nat} (h : Jd n E Q g) (k : ∀ p, Q p ↔ Q' p) : Jd n E Q' g := by
  have e : Q = Q' := funext fun p => propext (k p)
  rw [← e]; exact h
theorem wayL_cases (l : Poly) : ∀ (ps : List Pnt) (Q : Pnt → Prop) (g : List Nat), Jd l.length (incL l) Q g → (∀ p ∈ ps, ¬ Q p) → ps.Nodup →
    (wayL l ps g = true → ∃ F : Inc, (∀ r q, F r q → r < l.length ∧ incL l r q ∧ (Q q ∨ q ∈ ps)) ∧ Core F ∧ ∃ r q, F r q) ∧
    (wayL l ps g = false → ∃ g', Jd l.length (incL l) (fun q => Q q ∨ q ∈ ps) g') := by
  intro ps
  induction ps with
  | nil =>
    intro Q g h _ _
    refine ⟨fun e => ?_, fun _ => ⟨g, h.mono (by simp)⟩⟩
    simp [wayL] at e
  | cons p t ih =>
    intro Q g h hq hnd
    have hp := hq p (by simp)
    rw [List.nodup_cons] at hnd
    cases hj : join g (ringsAt l p) with
    | none =>
      refine ⟨fun _ => ?_, fun e => by simp [wayL, hj] at e⟩
      obtain ⟨F, h1, h2, h3⟩ := h.core (at_ringsAt l) hp hj
      refine ⟨F, fun r q t => ⟨(h1 r q t).1, (h1 r q t).2.1, ?_⟩, h2, h3⟩
      rcases (h1 r q t).2.2 with k | k
      · exact .inl k
      · exact .inr (by simp [k])
    | some g' =>
      have h' := h.step (at_ringsAt l) hp hj
      have := ih _ g' h' (by
        rintro q hq' (k | rfl)
        · exact hq q (by simp [hq']) k
        · exact hnd.1 hq') hnd.2
      have ew : wayL l (p :: t) g = wayL l t g' := by simp [wayL, hj]
      rw [ew]
      refine ⟨fun e => ?_, fun e => ?_⟩
      · obtain ⟨F, h1, h2, h3⟩ := this.1 e
        refine ⟨F, fun r q t => ⟨(h1 r q t).1, (h1 r q t).2.1, ?_⟩, h2, h3⟩
        rcases (h1 r q t).2.2 with (k | k) | k
        · exact .inl k
        · exact .inr (by simp [k])
        · exact .inr (by simp [k])
      · obtain ⟨g'', k⟩ := this.2 e
        exact ⟨g'', k.mono (by intro q; simp [or_assoc])⟩
theorem touch_fold (l : Poly) : ∀ (ps : List Pnt) (a : List Pnt), a.Nodup → (∀ p ∈ a, 1 < (ringsAt l p).length) →
    (ps.foldl (touchF l) a).Nodup ∧ ∀ q, q ∈ ps.foldl (touchF l) a ↔ q ∈ a ∨ (q ∈ ps ∧ 1 < (ringsAt l q).length) := by
  intro ps
  induction ps with
  | nil => intro a h _; exact ⟨h, by simp⟩
  | cons p t ih =>
    intro a h h1
    rw [List.foldl_cons]
    by_cases c : ¬ (p ∈ a) ∧ 1 < (ringsAt l p).length
    · rw [show touchF l a p = a ++ [p] from if_pos c]
      have := ih (a ++ [p]) (by rw [List.nodup_append]; exact ⟨h, by simp, by intro x hx y hy; simp at hy; subst hy; rintro rfl; exact c.1 hx⟩) (by
        intro q hq
        rcases List.mem_append.1 hq with hq | hq
        · exact h1 q hq
        · simp at hq; subst hq; exact c.2)
      refine ⟨this.1, fun q => ?_⟩
      rw [this.2 q]
      simp only [List.mem_append, List.mem_cons, List.mem_singleton, List.not_mem_nil, or_false]
      constructor
      · rintro ((k | rfl) | k)
        · exact .inl k
        · exact .inr ⟨.inl rfl, c.2⟩
        · exact .inr ⟨.inr k.1, k.2⟩
      · rintro (k | ⟨rfl | k, k2⟩)
        · exact .inl (.inl k)
        · exact .inl (.inr rfl)
        · exact .inr ⟨k, k2⟩
    · rw [show touchF l a p = a from if_neg c]
      have := ih a h h1
      refine ⟨this.1, fun q => ?_⟩
      rw [this.2 q]
      simp only [List.mem_cons]
      constructor
      · rintro (k | k)
        · exact .inl k
        · exact .inr ⟨.inr k.1, k.2⟩
      · rintro (k | ⟨rfl | k, k2⟩)
        · exact .inl k
        · by_cases hq : q ∈ a
          · exact .inl hq
          · exact absurd ⟨hq, k2⟩ c
        · exact .inr ⟨k, k2⟩
theorem two_at {n : Nat} {E : Inc} {f : Pnt → List Nat} (hA : At n E f) {p : Pnt} {a b : Nat} (ha : a ∈ f p) (hb : b ∈ f p) (hab : a ≠ b) : 1 < (f p).length := by
  match hf : f p with
  | [] => rw [hf] at ha; cases ha
  | [x] => rw [hf] at ha hb; simp at ha hb; exact absurd (ha.trans hb.symm) hab
  | x :: y :: t => simp
theorem nAt_range {n a : Nat} (h : a < n) : nAt (List.range n) a = a := by
  unfold nAt; simp [List.getD_eq_getElem?_getD, List.getElem?_range h]
theorem way_core (l : Poly) : way l = true ↔ ∃ F : Inc, (∀ r q, F r q → r < l.length ∧ incL l r q ∧ q ∈ l.flatten) ∧ Core F ∧ ∃ r q, F r q := by
  have ht := touch_fold l l.flatten [] List.nodup_nil (by simp)
  have h0 : Jd l.length (incL l) (fun _ => False) (List.range l.length) := by
    refine ⟨by simp, by simp, ?_, ?_⟩
    · intro F hF x _ r p h; exact (hF r p h).2.2
    · intro a b ha hb hab e
      rw [nAt_range ha, nAt_range hb] at e
      exact absurd e hab
  have key := wayL_cases l (touchPts l) _ _ h0 (by simp) ht.1
  constructor
  · intro h
    obtain ⟨F, h1, h2, h3⟩ := key.1 h
    refine ⟨F, fun r q t => ⟨(h1 r q t).1, (h1 r q t).2.1, ?_⟩, h2, h3⟩
    rcases (h1 r q t).2.2 with k | k
    · exact k.elim
    · have := (ht.2 q).1 k
      simp only [List.not_mem_nil, false_or] at this
      exact this.1
  · rintro ⟨F, h1, h2, r, q, h3⟩
    cases hw : way l with
    | true => rfl
    | false =>
      exfalso
      obtain ⟨g, hg⟩ := key.2 hw
      refine hg.no F ?_ 0 ⟨h2.pt, fun r p t _ _ => h2.ring r p t⟩ r q h3
      intro r p t
      obtain ⟨r', e, t'⟩ := h2.pt r p t
      have a1 := h1 r p t
      have a2 := h1 r' p t'
      refine ⟨a1.1, a1.2.1, .inr ?_⟩
      refine (ht.2 p).2 (.inr ⟨a1.2.2, ?_⟩)
      exact two_at (at_ringsAt l) (((at_ringsAt l).mem r p).2 ⟨a1.1, a1.2.1⟩) (((at_ringsAt l).mem r' p).2 ⟨a2.1, a2.2.1⟩) (Ne.symm e)
end Vd
end Go.Proofs.YtcclepohmhdpbabGreat

/- THE WALKS: package clauses: hasWayRound. -/
namespace Go.Proofs.YtcclepohmhdpbabGreat
set_option linter.all false
open Go.RowKit Go.Deep

theorem touch_more {l : Poly} {p : Pnt} (h : p ∈ Vd.touchPts l) : 1 < (Vd.ringsAt l p).length := by
  have := ((Vd.touch_fold l l.flatten [] List.nodup_nil (by simp)).2 p).1 h
  simpa using this.elim (fun x => by cases x) (fun x => x.2)
theorem touch_in {l : Poly} {p : Pnt} (h : p ∈ Vd.touchPts l) : p ∈ l.flatten := by
  have := ((Vd.touch_fold l l.flatten [] List.nodup_nil (by simp)).2 p).1 h
  exact this.elim (fun x => by cases x) (fun x => x.1)
theorem touch_len (l : Poly) : (Vd.touchPts l).length ≤ l.flatten.length := by
  have := tpN_len l l.flatten []
  rw [List.length_nil, Nat.zero_add] at this
  exact this
theorem fI_range (k : Nat) : flatG intC (List.range (k + 1)) = flatG intC (List.range k) ++ [.int .i64 (k : Int)] := by rw [List.range_succ, flatG_append]; rfl
theorem wayL_none {l : Poly} {p : Pnt} {t : List Pnt} {g : List Nat} (h : Vd.join g (Vd.ringsAt l p) = none) : Vd.wayL l (p :: t) g = true := by unfold Vd.wayL; rw [h]
theorem wayL_some {l : Poly} {p : Pnt} {t : List Pnt} {g g' : List Nat} (h : Vd.join g (Vd.ringsAt l p) = some g') : Vd.wayL l (p :: t) g = Vd.wayL l t g' := by conv => lhs; unfold Vd.wayL; rw [h]
theorem ringsAt_lt {l : Poly} {p : Pnt} {j : Nat} (h : j ∈ Vd.ringsAt l p) : j < l.length := (((Vd.at_ringsAt l).mem j p).1 h).1

/-- what hasWayRound holds. -/
structure WY (w wr : World) (gv : Value) (g : List Nat) : Prop where
  up : Up w wr
  row : VRow wr w.heap.size 81 [gv]
  own : wr.ownsRow w.heap.size 3 1 gv g.length (flatG intC g)
theorem WY.keep {w wr w2 : World} {gv : Value} {g : List Nat} (h : WY w wr gv g) (k : Up wr w2) : WY w w2 gv g := ⟨h.up.trans k, h.row.up k, own_up h.own k⟩

set_option maxHeartbeats 8000000 in
theorem way_any (v : Value) (l : Poly) (w : World) (hv : Rd2 w v l) (hl : l.length ≤ 1048576) (hl2 : ∀ r ∈ l, r.length ≤ 1048576) (hf : l.flatten.length ≤ 1048576) (hc : Vd.CdL l) :
    Calls Tryz.prog 37 #[v] w fun e w' => e = .returned (.bool (Vd.way l)) ∧ Up w w' := by
  have HV := hide hv
  have HC := hide hc
  have HL := hide hl2
  have HF := hide hf
  have HW : Hid (Vd.way l = Vd.wayL l (Vd.touchPts l) (List.range l.length)) := rfl
  obtain ⟨ao, cap, rfl, -⟩ := hv
  clear hc hl2 hf
  have H0 : Hid (WY w (w.alloc (.cells #[.slice none 0 0] 81)) (.slice none 0 0) (List.range 0)) :=
    ⟨(Up.refl _).alloc _, new_row (vs := [_]) rfl, World.ownsRow_nil _ _ _ _⟩
  go_enter Tryz.func37, Tryz.ntmps37
  go_wp2
  go_loopw [9] (fun i wr => ∃ (k : Nat) (gv : Value), i = .int .i64 k ∧ k ≤ l.length ∧ Hid (WY w wr gv (List.range k))) (fun i _ => l.length - (intOf i).toNat)
  case atStart => exact ⟨0, _, rfl, Nat.zero_le _, H0⟩
  case round =>
    clear H0
    obtain ⟨k, gv, rfl, hk, HN⟩ := hrel
    by_cases hlt : k < l.length
    · have c0 := HN.out.row.cell (i := 0) rfl
      have HOA : Hid ((wr.alloc (.cells #[.int .i64 (k : Int)] 3)).ownsRow w.heap.size 3 1 gv k (flatG intC (List.range k))) := by
        have := HN.out.own.alloc (.cells #[.int .i64 (k : Int)] 3)
        rw [List.length_range] at this
        exact this
      have hb : Hid (k ≤ 1073741824) := by show _ ≤ _; omega
      have hsz := hide HN.out.up.size
      have RA := hide (HN.out.row.alloc (.cells #[.int .i64 (k : Int)] 3))
      go_wp2_with (at_builtin; refine wpList_app el_ints rfl (.tmp 13) (.tmp 15) rfl w.heap.size _ _ _ (by rfl) HOA.out wr.heap.size [.int .i64 (k : Int)] (by rfl) rfl (heap_alloc_new wr _) (by intro x hx; simp at hx; subst hx; rfl) hb.out (by simp; have := hsz.out; omega) ?_; intro g cap w5 hown5 hg5 hat5 hlt5; have R5 := hide (RA.out.grown hg5 (own_row_ne HOA.out RA.out (by decide))); have d0 := R5.out.cell (i := 0) rfl; have df := R5.out.frozen 0; replace hown5 := hide hown5; replace hg5 := hide hg5; clear hat5 hlt5)
      go_roundw
      case rel =>
        refine ⟨k + 1, .slice (some ⟨g, 0, none⟩) (k + 1) cap, by go_num, by omega, ?_, ?_, ?_⟩
        · exact (Fr.up (S := fun _ => False) (((Fr.of_up HN.out.up).alloc _).grown hg5.out fun x hx => .inr (own_lt HOA.out hx).1) (fun _ _ h => h)).setCell (Nat.le_refl _) _
        · exact R5.out.set 0 _
        · rw [List.length_range, fI_range]
          exact own_set hown5.out (own_row_ne hown5.out R5.out (by decide)) _
      case measure => simp [intOf]; omega
    · have hk2 : k = l.length := by omega
      subst hk2
      go_wp2_with fail
      refine (touchPoints_any _ l _ (HV.out.up HN.out.up) hl HL.out HF.out HC.out).mono ?_
      rintro e w2 ⟨tv, rfl, hz2, hto⟩
      obtain ⟨ta, tc, rfl⟩ := own_len hto
      have HN2 := hide (HN.out.keep hz2)
      have HTo := hide hto
      have HTb := hide HN.out.up.size
      have htl : (Vd.touchPts l).length ≤ 1048576 := Nat.le_trans (touch_len l) HF.out
      have HM : Hid (∀ i p, (Vd.touchPts l)[i]? = some p → 1 < (Vd.ringsAt l p).length ∧ Vd.Cd p) := fun i p hp => ⟨touch_more (Pl.mem_of_some hp), by
        obtain ⟨r, h1, h2⟩ := List.mem_flatten.1 (touch_in (Pl.mem_of_some hp)); exact HC.out r h1 p h2⟩
      generalize Vd.touchPts l = T at *
      clear hz2 hto HN
      go_wp2_with fail
      go_loopw [22] (fun i wq => ∃ (k : Nat) (g : List Nat), i = .int .i64 k ∧ k ≤ T.length ∧ Hid (WY w wq gv g) ∧ Hid (g.length = l.length) ∧ Hid (wq.ownsRow wr.heap.size 76 2 (.slice ta T.length tc) T.length (flat T)) ∧ Hid (Vd.way l = Vd.wayL l (T.drop k) g)) (fun i _ => T.length - (intOf i).toNat)
      case atStart => exact ⟨0, _, rfl, Nat.zero_le _, HN2, List.length_range, HTo, HW⟩
      case round =>
        clear HN2 HTo
        obtain ⟨k, g, rfl, hk, HN, HG, HTo, HX⟩ := hrel
        by_cases hlt : k < T.length
        · obtain ⟨⟨px, py⟩, hp⟩ := Pl.some_of_lt hlt
          obtain ⟨hrn, hcp⟩ := HM.out k _ hp
          obtain ⟨ta', tc', ev, htr⟩ := own_rd1 HTo.out
          cases ev
          obtain ⟨b, rfl, c0, c1⟩ := htr k _ hp
          dsimp only at c0 c1
          have HCp := hide hcp
          have HD := hide (drop_at hp)
          have Hrn := hide hrn
          clear hp hcp hrn htr
          go_wp2_with fail
          refine (ringsAt_any _ l (px, py) _ ((HV.out.up HN.out.up).up ((Up.refl _).alloc _)) hl HL.out HC.out HCp.out).mono ?_
          rintro e w3 ⟨jv, rfl, hz3, hjo⟩
          obtain ⟨a, t, hJ⟩ : ∃ a t, Vd.ringsAt l (px, py) = a :: t := by
            cases hr : Vd.ringsAt l (px, py) with
            | nil => have := Hrn.out; rw [hr] at this; simp at this
            | cons a t => exact ⟨a, t, rfl⟩
          have HJL := hide (fun j (h : j ∈ Vd.ringsAt l (px, py)) => ringsAt_lt h)
          have hjl := ringsAt_len l (px, py)
          have HWn := hide (fun t' g' => wayL_none (l := l) (p := (px, py)) (t := t') (g := g'))
          have HWs := hide (fun t' g' g'' => wayL_some (l := l) (p := (px, py)) (t := t') (g := g') (g' := g''))
          rw [hJ] at hjo HJL hjl HWn HWs
          obtain ⟨jb, jc, ej, hjc⟩ := own_cell hjo (by simp)
          subst ej
          have hn0 : 0 < g.length := by
            rw [HG.out]
            have := HJL.out a (by simp)
            omega
          obtain ⟨gb, gc, eg, -⟩ := own_cell HN.out.own hn0
          subst eg
          have hgn := HG.out
          rw [hgn] at HN
          have hgb : w.heap.size ≤ gb ∧ gb < wr.heap.size := own_lt HN.out.own rfl
          have hjb : wr.heap.size + 1 ≤ jb ∧ jb < w3.heap.size := by have := own_lt hjo (g := jb) rfl; simpa using this
          have HN3 := hide (HN.out.keep (((Up.refl _).alloc _).trans hz3))
          have hne : w.heap.size ≠ gb := fun e => own_row_ne HN.out.own HN.out.row (by decide) (by rw [e]; rfl)
          have HJ : Hid (JN w3 w3 w.heap.size gb gc w.heap.size jb jc l.length (a :: t) g) := by
            refine ⟨Fr.refl _ _, HN3.out.row, ?_, HG.out, fun i j hj => hjc i _ (fI_at hj), hne, by omega⟩
            have := HN3.out.own
            rw [hgn] at this
            exact this
          have HTo3 := hide (own_up HTo.out (((Up.refl _).alloc _).trans hz3))
          have Hgb := hide hgb
          clear hjo hz3 hjc hgn hn0 hne hgb hjb c0 c1 HN HTo
          simp only [List.length_cons] at hjl
          go_wp2_with fail
          refine (join_any w.heap.size gb gc w.heap.size jb jc l.length a t g _ HJ.out hl (by omega) HJL.out).mono ?_
          rintro e w4 ⟨rfl, hfr, hjn⟩
          have HU4 : Hid (Up w w4) := Fr.up (S := fun b => b = gb) ((Fr.of_up HN3.out.up).trans hfr) (fun x hx e => by have := Hgb.out; omega)
          have HTo4 := hide (own_fr HTo3.out hfr fun x hx e => by
            have h1 := own_type HTo3.out hx
            have h2 := own_type HN3.out.own (g := gb) rfl
            obtain ⟨q1, h1⟩ := h1
            obtain ⟨q2, h2⟩ := h2
            rw [e, h2] at h1
            simp at h1)
          cases hj : Vd.join g (a :: t) with
          | none =>
            have HR : Hid (Vd.way l = true) := by rw [HX.out, HD.out]; exact HWn.out _ _ hj
            clear hjn hfr
            go_wp2
            go_ret
            exact ⟨ret_b HR.out.symm, HU4.out⟩
          | some g' =>
            have HR : Hid (Vd.way l = Vd.wayL l (T.drop (k + 1)) g') := by rw [HX.out, HD.out]; exact HWs.out _ _ _ hj
            have HJ4 := hide (hjn g' hj)
            clear hjn hfr
            go_wp2
            go_roundw
            case rel =>
              refine ⟨k + 1, g', by go_num, by omega, ?_, HJ4.out.len, HTo4, HR⟩
              rw [HG.out]
              exact ⟨HU4.out, HJ4.out.row, by have := HJ4.out.own; rw [HJ4.out.len]; exact this⟩
            case measure => simp [intOf]; omega
        · have hk2 : k = T.length := by omega
          subst hk2
          rw [List.drop_length] at HX
          have HR : Hid (Vd.way l = false) := HX.out
          go_wp2
          go_ret
          exact ⟨ret_b HR.out.symm, HN.out.up⟩
end Go.Proofs.YtcclepohmhdpbabGreat

/- THE WALKS: package clauses: isFree, boundsCross, enters. -/
namespace Go.Proofs.YtcclepohmhdpbabGreat
set_option linter.all false
open Go.RowKit Go.Deep

theorem freeL_on {r : Ring} {t : List Ring} {b f : Bool} {p : Vd.Spot} (h : Vd.place r p = 1) : Vd.freeL (r :: t) b f p = false := by unfold Vd.freeL; rw [if_pos h]
theorem freeL_go {r : Ring} {t : List Ring} {b f : Bool} {p : Vd.Spot} (h : Vd.place r p ≠ 1) : Vd.freeL (r :: t) b f p = Vd.freeL t false (f || (b && decide (Vd.place r p = 0)) || (!b && decide (Vd.place r p = 2))) p := by conv => lhs; unfold Vd.freeL; rw [if_neg h]
theorem place_range (r : Ring) (p : Vd.Spot) : ∀ (l : List Vd.Seg) (i : Bool), Vd.placeL l i p = 0 ∨ Vd.placeL l i p = 1 ∨ Vd.placeL l i p = 2 := by
  intro l
  induction l with
  | nil => intro i; cases i <;> simp [Vd.placeL]
  | cons s l ih =>
    intro i
    unfold Vd.placeL
    split
    · simp
    · exact ih _

set_option maxHeartbeats 8000000 in
theorem free_any (v : Value) (l : Poly) (p : Vd.Spot) (w : World) (hv : Rd2 w v l) (hl : l.length ≤ 1048576) (hl2 : ∀ r ∈ l, r.length ≤ 1048576) (hc : Vd.CdL l) (hp : Vd.Sp p) :
    Calls Tryz.prog 65 #[v, spotV p] w fun e w' => e = .returned (.bool (Vd.free l p)) ∧ Up w w' := by
  obtain ⟨ao, cap, rfl, hm⟩ := hv
  have HM := hide hm
  have HC := hide hc
  have HL := hide hl2
  have HP := hide hp
  obtain ⟨⟨x, y⟩, t⟩ := p
  clear hm hc hl2 hp
  simp only [spotV]
  have R0 := hide (new_row (w := w) (o := .cells #[.int .i64 x, .int .i64 y, .int .i64 t] 92) (vs := [.int .i64 x, .int .i64 y, .int .i64 t]) rfl)
  have HU0 : Hid (Up w (w.alloc (.cells #[.int .i64 x, .int .i64 y, .int .i64 t] 92))) := (Up.refl _).alloc _
  go_enter Tryz.func65, Tryz.ntmps65
  go_wp2
  go_loopw [5, 11] (fun fv i wr => ∃ (k : Nat) (f : Bool), i = .int .i64 k ∧ fv = .bool f ∧ k ≤ l.length ∧ Hid (Up w wr) ∧ Hid (VRow wr w.heap.size 92 [.int .i64 x, .int .i64 y, .int .i64 t]) ∧ Hid (Vd.free l ((x, y), t) = Vd.freeL (l.drop k) (decide (k = 0)) f ((x, y), t))) (fun _ i _ => l.length - (intOf i).toNat)
  case atStart => exact ⟨0, false, rfl, rfl, Nat.zero_le _, HU0, R0, rfl⟩
  case round =>
    clear HU0 R0
    obtain ⟨k, f, rfl, rfl, hk, HU, R0, HE⟩ := hrel
    by_cases hlt : k < l.length
    · obtain ⟨r, hr⟩ := Pl.some_of_lt hlt
      obtain ⟨b, z, rfl, cu, hz⟩ := HM.out k r hr
      have Hz := hide (hz.up HU.out)
      have cu2 := HU.out.cell cu
      have HrL := hide (HL.out r (Pl.mem_of_some hr))
      have HrC := hide (HC.out r (Pl.mem_of_some hr))
      have p0 := R0.out.cell (i := 0) rfl
      have p1 := R0.out.cell (i := 1) rfl
      have p2 := R0.out.cell (i := 2) rfl
      rw [drop_at hr] at HE
      clear hr cu hz
      go_wp2_with fail
      refine (place_any _ r ((x, y), t) _ Hz.out HrL.out HrC.out HP.out).mono ?_
      rintro e w2 ⟨rfl, hz2⟩
      have HU2 := hide (HU.out.trans hz2)
      have R2 := hide (R0.out.up hz2)
      clear hz2 cu2 p0 p1 p2
      by_cases h1 : Vd.place r ((x, y), t) = 1
      · have HR := hide (HE.out.trans (freeL_on h1))
        rw [h1]
        go_wp2
        go_ret
        exact ⟨ret_b HR.out.symm, HU2.out⟩
      · have HR := hide (HE.out.trans (freeL_go h1))
        generalize Vd.place r ((x, y), t) = P at *
        have h1' := beq_eq_false_iff_ne.2 h1
        by_cases hk0 : k = 0
        · have HK := hide hk0
          rw [decide_eq_true hk0] at HR
          have j1 : ((k : Int) == 0) = true := beq_iff_eq.2 (by omega)
          clear hk0
          by_cases h0 : P = 0
          · have HR2 : Hid (Vd.free l ((x, y), t) = Vd.freeL (l.drop (k + 1)) (decide (k + 1 = 0)) true ((x, y), t)) := by
              rw [HR.out, h0]; simp [Hid]
            subst h0
            go_wp2
            go_roundw
            case rel => exact ⟨k + 1, true, by rw [HK.out]; rfl, rfl, by omega, HU2, R2, HR2⟩
            case measure => simp [intOf]; omega
          · have HR2 : Hid (Vd.free l ((x, y), t) = Vd.freeL (l.drop (k + 1)) (decide (k + 1 = 0)) f ((x, y), t)) := by
              rw [HR.out]; simp [Hid, h0]
            have h0' := beq_eq_false_iff_ne.2 h0
            go_wp2
            go_roundw
            case rel => exact ⟨k + 1, f, by rw [HK.out]; rfl, rfl, by omega, HU2, R2, HR2⟩
            case measure => simp [intOf]; omega
        · rw [decide_eq_false hk0] at HR
          have j1 : ((k : Int) == 0) = false := beq_eq_false_iff_ne.2 (by omega)
          have j2 : (0 : Int) < (k : Int) := by omega
          clear hk0
          by_cases h2 : P = 2
          · have HR2 : Hid (Vd.free l ((x, y), t) = Vd.freeL (l.drop (k + 1)) (decide (k + 1 = 0)) true ((x, y), t)) := by
              rw [HR.out, h2]; simp [Hid]
            subst h2
            go_wp2
            go_roundw
            case rel => exact ⟨k + 1, true, by go_num, rfl, by omega, HU2, R2, HR2⟩
            case measure => simp [intOf]; omega
          · have HR2 : Hid (Vd.free l ((x, y), t) = Vd.freeL (l.drop (k + 1)) (decide (k + 1 = 0)) f ((x, y), t)) := by
              rw [HR.out]; simp [Hid, h2]
            have h2' := beq_eq_false_iff_ne.2 h2
            go_wp2
            go_roundw
            case rel => exact ⟨k + 1, f, by go_num, rfl, by omega, HU2, R2, HR2⟩
            case measure => simp [intOf]; omega
    · have hk2 : k = l.length := by omega
      subst hk2
      rw [List.drop_length] at HE
      go_wp2
      go_ret
      exact ⟨ret_b HE.out.symm, HU.out⟩

set_option maxHeartbeats 4000000 in
theorem bounds_any (v u : Value) (a c : Poly) (w : World) (hv : Rd2 w v a) (hu : Rd2 w u c) (hl : a.length ≤ 1048576) (hl2 : ∀ r ∈ a, r.length ≤ 1048576) (hm : c.length ≤ 1048576) (hm2 : ∀ r ∈ c, r.length ≤ 1048576) (hc : Vd.CdL a) (hd : Vd.CdL c) :
    Calls Tryz.prog 38 #[v, u] w fun e w' => e = .returned (.bool (Vd.boundsX a c)) ∧ Up w w' := by
  obtain ⟨ao, cap, rfl, hM⟩ := hv
  obtain ⟨ao2, cap2, rfl, hM2⟩ := hu
  have HM := hide hM
  have HM2 := hide hM2
  have HC := hide hc
  have HL := hide hl2
  have HD := hide hd
  have HL2 := hide hm2
  have HT : Hid (Vd.boundsX a c = a.any fun r => c.any fun o => Vd.cross r o) := rfl
  generalize hf : (fun r => c.any fun o => Vd.cross r o) = f at *
  have HF : Hid (∀ s, f s = c.any fun o => Vd.cross s o) := by subst hf; exact fun _ => rfl
  clear hM hM2 hc hd hl2 hm2 hf
  go_enter Tryz.func38, Tryz.ntmps38
  go_wp2
  go_loopw [11] (fun i wr => ∃ k : Nat, i = .int .i64 k ∧ k ≤ a.length ∧ Hid (Up w wr) ∧ Hid ((a.take k).any f = false)) (fun i _ => a.length - (intOf i).toNat)
  case atStart => exact ⟨0, rfl, Nat.zero_le _, Up.refl _, rfl⟩
  case round =>
    obtain ⟨k, rfl, hk, HU, HA⟩ := hrel
    by_cases hlt : k < a.length
    · obtain ⟨r, hr⟩ := Pl.some_of_lt hlt
      obtain ⟨b, z, rfl, cu, hz⟩ := HM.out k r hr
      obtain ⟨za, zc, rfl, -⟩ := id hz
      have Hz := hide hz
      have cu2 := HU.out.cell cu
      have Hr := hide hr
      have HrL := hide (HL.out r (Pl.mem_of_some hr))
      have HrC := hide (HC.out r (Pl.mem_of_some hr))
      have HX := hide (Pl.any_take_succ f hr)
      clear hr cu hz
      go_wp2
      clear cu2
      go_loopw [17] (fun i wr => ∃ q : Nat, i = .int .i64 q ∧ q ≤ c.length ∧ Hid (Up w wr) ∧ Hid ((c.take q).any (fun o => Vd.cross r o) = false)) (fun i _ => c.length - (intOf i).toNat)
      case atStart => exact ⟨0, rfl, Nat.zero_le _, HU, rfl⟩
      case round =>
        clear HU
        obtain ⟨q, rfl, hq, HU, HB⟩ := hrel
        by_cases hlq : q < c.length
        · obtain ⟨o, ho⟩ := Pl.some_of_lt hlq
          obtain ⟨b', z', rfl, cu, hz⟩ := HM2.out q o ho
          have Hz2 := hide (hz.up HU.out)
          have HzU := hide (Hz.out.up HU.out)
          have cu2 := HU.out.cell cu
          have HoL := hide (HL2.out o (Pl.mem_of_some ho))
          have HoC := hide (HD.out o (Pl.mem_of_some ho))
          have HY := hide (Pl.any_take_succ (fun o => Vd.cross r o) ho)
          have Ho := hide ho
          clear ho cu hz
          cases hx : Vd.cross r o
          · have Hx := hide hx
            clear hx
            go_wp2_with (go_at_call 58; refine (cross_any _ _ r o _ HzU.out Hz2.out HrL.out HoL.out HrC.out HoC.out).mono ?_; rintro e w2 ⟨rfl, hz2⟩; rw [Hx.out]; replace hz2 := hide hz2)
            go_roundw
            case rel => exact ⟨q + 1, by go_num, by omega, HU.out.trans hz2.out, by rw [HY.out, HB.out, Hx.out]; exact rfl⟩
            case measure => simp [intOf]; omega
          · have Hx := hide hx
            have HR : Hid (Vd.boundsX a c = true) := by rw [HT.out]; exact Pl.any_true_of f Hr.out (by rw [HF.out]; exact Pl.any_true_of _ Ho.out hx)
            clear hx
            go_wp2_with (go_at_call 58; refine (cross_any _ _ r o _ HzU.out Hz2.out HrL.out HoL.out HrC.out HoC.out).mono ?_; rintro e w2 ⟨rfl, hz2⟩; rw [Hx.out]; replace hz2 := hide hz2)
            go_ret
            exact ⟨ret_b HR.out.symm, HU.out.trans hz2.out⟩
        · have hq2 : q = c.length := by omega
          subst hq2
          rw [List.take_length] at HB
          go_wp2
          go_roundw
          case rel => exact ⟨k + 1, by go_num, by omega, HU, by rw [HX.out, HA.out, HF.out, HB.out]; exact rfl⟩
          case measure => simp [intOf]; omega
    · have hk2 : k = a.length := by omega
      subst hk2
      rw [List.take_length] at HA
      have HR : Hid (Vd.boundsX a c = false) := by rw [HT.out]; exact HA.out
      go_wp2
      go_ret
      exact ⟨ret_b HR.out.symm, HU.out⟩
end Go.Proofs.YtcclepohmhdpbabGreat
