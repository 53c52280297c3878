/- THE DOCUMENT's WALKS: middles. -/
import Derived.Test.YtcclepohmhdpbaaGreatDoorRfE
namespace Go.Proofs.YtcclepohmhdpbaaGreatDoor
set_option linter.all false
open Go.RowKit Go.Deep

namespace Vd
theorem fold_drop (f : Pnt → Int) (ok : Pnt → Prop) [DecidablePred ok] (x : Pnt) : ∀ (l : List Pnt) (t : Pnt), l.foldl (cutG f ok x) t = t ∨ f (l.foldl (cutG f ok x) t) < f t := by
  intro l
  induction l with
  | nil => intro t; exact .inl rfl
  | cons p l ih =>
    intro t
    rw [List.foldl_cons]
    by_cases k : ok p ∧ f x < f p ∧ f p < f t
    · rw [show cutG f ok x t p = p from if_pos k]
      rcases ih p with h | h
      · rw [h]; exact .inr k.2.2
      · exact .inr (by omega)
    · rw [show cutG f ok x t p = t from if_neg k]; exact ih t
/-- the way goes on. -/
def Wy (a b : Pnt) (rings : Poly) (x : Pnt) (n : Nat) : Prop := x = b ∨ (a ≠ b ∧ pos a b x < pos a b b ∧ fuel (pos a b) rings.flatten b x ≤ n)
theorem wy_start (a b : Pnt) (rings : Poly) : Wy a b rings a (rings.flatten.length + 1) := by
  by_cases h : a = b
  · exact .inl h
  · refine .inr ⟨h, ?_, ?_⟩
    · have h1 : pos a b a = 0 := by unfold pos dt; grind
      have h2 : pos a b b = kk a b := by unfold pos dt kk; grind
      rw [h1, h2]
      exact kk_pos h
    · unfold fuel
      rw [if_neg h]
      have := List.countP_le_length (p := fun p => decide (pos a b a < pos a b p)) (l := rings.flatten)
      omega
theorem wy_step {a b x : Pnt} {rings : Poly} {n : Nat} (h : Wy a b rings x n) (hx : x ≠ b) :
    ∃ n', n = n' + 1 ∧ midsD a b rings n x = midOf x (nextD a b x rings) :: midsD a b rings n' (nextD a b x rings) ∧ Wy a b rings (nextD a b x rings) n' := by
  rcases h with h | ⟨hab, hlt, hf⟩
  · exact absurd h hx
  · have s := fuel_step (f := pos a b) (ok := fun p => has a b p 1) (l := rings.flatten) hx hlt
    rw [← nextD_eq hab] at s
    cases n with
    | zero => omega
    | succ n =>
      refine ⟨n, rfl, by rw [midsD, if_neg hx], ?_⟩
      rcases fold_drop (pos a b) (fun p => has a b p 1) x rings.flatten b with e | e
      · rw [← nextD_eq hab] at e; exact .inl e
      · rw [← nextD_eq hab] at e; exact .inr ⟨hab, e, by omega⟩
theorem midsD_end {a b : Pnt} {rings : Poly} (n : Nat) : midsD a b rings n b = [] := by cases n <;> simp [midsD]
theorem cutD_pos {a b x t p : Pnt} (h1 : on a b p 1) (h2 : dotD a b x p > 0) (h3 : dotD a b p t > 0) : cutD a b x t p = p := if_pos ⟨h1, h2, h3⟩
theorem cutD_neg {a b x t p : Pnt} (h : ¬ (on a b p 1 ∧ dotD a b x p > 0 ∧ dotD a b p t > 0)) : cutD a b x t p = t := if_neg h
end Vd
theorem foldD_snoc {a b x t0 : Pnt} {l : List Pnt} {p : Pnt} : (l ++ [p]).foldl (Vd.cutD a b x) t0 = Vd.cutD a b x (l.foldl (Vd.cutD a b x) t0) p := by rw [List.foldl_append]; rfl
theorem dotD_is (a b x y : Pnt) : Vd.dotD a b x y = dotP (subP x y) (subP a b) := rfl
theorem on1_is {a b c : Pnt} {e : Bool} (h : onB a b (c, 1) = e) (ha : Vd.Cd a) (hb : Vd.Cd b) (hc : Vd.Cd c) (w : World) : Calls Tryz.prog 203 #[ptV a, ptV b, ptV c, .int .i64 1] w fun x w' => x = .returned (.bool e) ∧ Up w w' :=
  on_is (p := (c, 1)) h ha hb (Vd.at1_sp hc) w

/-- what the document's middles holds. -/
def RO (w : World) (A : Nat) (a b u f : Pnt) : List (Nat × TypeId × List Value) := [(w.heap.size, 32, ptC a), (w.heap.size + 1, 32, ptC b), (A, 155, ptC u), (A + 1, 32, ptC f)]
theorem Rw.grown {w w2 : World} {l : List (Nat × TypeId × List Value)} (h : Rw w l) {v : Value} (hg : w.grownBy w2 v.ownBlock) (hn : ∀ x ∈ l, v.ownBlock ≠ some x.1) : Rw w2 l := fun x hx => (h x hx).grown hg (hn x hx)
theorem Rw.tail {w : World} {x : Nat × TypeId × List Value} {l : List (Nat × TypeId × List Value)} (h : Rw w (x :: l)) : Rw w l := fun y hy => h y (List.mem_cons_of_mem _ hy)
theorem Rw.head {w : World} {x : Nat × TypeId × List Value} {l : List (Nat × TypeId × List Value)} (h : Rw w (x :: l)) : VRow w x.1 x.2.1 x.2.2 := h x (by simp)
theorem Rw.cons {w : World} {x : Nat × TypeId × List Value} {l : List (Nat × TypeId × List Value)} (k : VRow w x.1 x.2.1 x.2.2) (h : Rw w l) : Rw w (x :: l) := fun y hy => by
  rcases List.mem_cons.1 hy with rfl | hy
  · exact k
  · exact h y hy
theorem RO.set {w wr : World} {A : Nat} {a b u f : Pnt} (hA : w.heap.size + 2 ≤ A) (h : Rw wr (RO w A a b u f)) (x y : Int) : Rw ((wr.setCell ⟨A + 1, 0, none⟩ (.int .i64 x)).setCell ⟨A + 1, 1, none⟩ (.int .i64 y)) (RO w A a b u (x, y)) := by
  have k : ∀ {z : Nat} {t : TypeId} {vs : List Value}, z ≠ A + 1 → VRow wr z t vs → VRow ((wr.setCell ⟨A + 1, 0, none⟩ (.int .i64 x)).setCell ⟨A + 1, 1, none⟩ (.int .i64 y)) z t vs := fun hz q => (q.setOther hz _).setOther hz _
  refine Rw.cons (k (by show w.heap.size ≠ A + 1; omega) h.head) (Rw.cons (k (by show w.heap.size + 1 ≠ A + 1; omega) h.tail.head) (Rw.cons (k (by show A ≠ A + 1; omega) h.tail.tail.head) (Rw.cons (row_set2 h.tail.tail.tail.head _ _) (Rw.nil _))))
theorem Vd.nextD_cd {a b x : Pnt} {rings : Poly} (hb : Vd.Cd b) (hc : Vd.CdL rings) : Vd.Cd (Vd.nextD a b x rings) := by
  unfold Vd.nextD
  have key : ∀ (l : List Pnt) (t : Pnt), (∀ p ∈ l, Vd.Cd p) → Vd.Cd t → Vd.Cd (l.foldl (Vd.cutD a b x) t) := by
    intro l
    induction l with
    | nil => intro t _ h; exact h
    | cons p l ih =>
      intro t hp ht
      rw [List.foldl_cons]
      refine ih _ (fun q hq => hp q (by simp [hq])) ?_
      unfold Vd.cutD
      split
      · exact hp p (by simp)
      · exact ht
  refine key _ _ (fun p hp => ?_) hb
  obtain ⟨r, hr, hpr⟩ := List.mem_flatten.1 hp
  exact hc r hr p hpr
set_option maxRecDepth 8000 in
set_option maxHeartbeats 16000000 in
theorem midD_any {o : Nat} (a b : Pnt) (v : Value) (rings : Poly) (w : World) (ha : Vd.Cd a) (hb : Vd.Cd b) (hv : Rdo o w v rings) (hl : rings.length ≤ 1048576) (hl2 : ∀ r ∈ rings, r.length ≤ 1048576) (hf : rings.flatten.length ≤ 1048576) (hc : Vd.CdL rings) :
    Calls Tryz.prog 166 #[ptV a, ptV b, v] w fun e w' => ∃ u, e = .returned u ∧ Up w w' ∧ w'.ownsRow w.heap.size 32 2 u (Vd.midD a b rings).length (flat ((Vd.midD a b rings).map (·.1))) := by
  have HCa := hide ha
  have HCb := hide hb
  have HC := hide hc
  have HL := hide hl2
  obtain ⟨ao, cap, rfl, hm⟩ := hv
  have HM := hide hm
  have hWy := hide (Vd.wy_start a b rings)
  have HD : Hid (Vd.midD a b rings = Vd.midsD a b rings (rings.flatten.length + 1) a) := rfl
  have bU := hide (sub_bdd ha hb)
  have HA0 := hide (bdd_mono (cd_bdd ha) (B := 4611686018427387903) (by omega))
  have HB0 := hide (bdd_mono (cd_bdd hb) (B := 4611686018427387903) (by omega))
  generalize hMs : Vd.midD a b rings = Ms at *
  clear hMs ha hb hc hl2 hm
  obtain ⟨ax, ay⟩ := a
  obtain ⟨bx, bY⟩ := b
  simp only [ptV]
  have R : Hid (Rw ((w.alloc (.cells #[.int .i64 ax, .int .i64 ay] 32)).alloc (.cells #[.int .i64 bx, .int .i64 bY] 32)) [(w.heap.size + 1, 32, [.int .i64 bx, .int .i64 bY]), (w.heap.size, 32, [.int .i64 ax, .int .i64 ay])]) := by
    have := ((Rw.nil w).newv ax ay 32).newv bx bY 32
    show Rw _ _
    simpa using this
  have hsz0 : Hid (((w.alloc (.cells #[.int .i64 ax, .int .i64 ay] 32)).alloc (.cells #[.int .i64 bx, .int .i64 bY] 32)).heap.size = w.heap.size + 2) := by simp [Hid]
  have HU : Hid (Up w ((w.alloc (.cells #[.int .i64 ax, .int .i64 ay] 32)).alloc (.cells #[.int .i64 bx, .int .i64 bY] 32))) := ((Up.refl _).alloc _).alloc _
  go_enter Tryz.func166, Tryz.ntmps166
  go_wp2_with fail
  refine (way2_any (ax, ay) (bx, bY) HA0.out HB0.out _).mono ?_
  rintro e w1 ⟨rfl, hz⟩
  replace HU := hide (HU.out.trans hz)
  replace R := hide (R.out.up hz)
  have hA : Hid (w.heap.size + 2 ≤ w1.heap.size) := by have := hz.size; rw [hsz0.out] at this; exact this
  obtain ⟨U, hU⟩ : ∃ U, subP (ax, ay) (bx, bY) = U := ⟨_, rfl⟩
  rw [hU] at bU ⊢
  have HUd := hide hU
  obtain ⟨ux, uy⟩ := U
  clear hz hU hsz0
  simp only [ptV]
  have q0 := fun o => (R.out.alloc o).get 1 rfl 0 rfl
  have q1 := fun o => (R.out.alloc o).get 1 rfl 1 rfl
  have HR0 : Hid (Rw ((w1.alloc (.cells #[.int .i64 ux, .int .i64 uy] 155)).alloc (.cells #[.int .i64 ax, .int .i64 ay] 32)) (RO w w1.heap.size (ax, ay) (bx, bY) (ux, uy) (ax, ay))) := by
    have h := (R.out.newv ux uy 155).newv ax ay 32
    have e : (w1.alloc (.cells #[.int .i64 ux, .int .i64 uy] 155)).heap.size = w1.heap.size + 1 := by simp
    rw [e] at h
    exact Rw.cons h.tail.tail.tail.head (Rw.cons h.tail.tail.head (Rw.cons h.tail.head (Rw.cons h.head (Rw.nil _))))
  replace HU := hide ((HU.out.alloc (.cells #[.int .i64 ux, .int .i64 uy] 155)).alloc (.cells #[.int .i64 ax, .int .i64 ay] 32))
  have hS0 : Hid (w1.heap.size + 2 ≤ ((w1.alloc (.cells #[.int .i64 ux, .int .i64 uy] 155)).alloc (.cells #[.int .i64 ax, .int .i64 ay] 32)).heap.size) := by simp [Hid]
  clear R
  go_wp2_with fail
  generalize hAA : w1.heap.size = A at *
  clear hAA q0 q1
  go_loopg [8] (rings.flatten.length + 1) (fun n mv wr => ∃ (f : Pnt) (u : Value) (ms : List Vd.Spot), u = mv ∧ Hid (Up w wr) ∧ Hid (A + 2 ≤ wr.heap.size) ∧ Hid (Rw wr (RO w A (ax, ay) (bx, bY) (ux, uy) f)) ∧ Hid (wr.ownsRow (A + 2) 32 2 u ms.length (flat (ms.map (·.1)))) ∧ Hid (Ms = ms ++ Vd.midsD (ax, ay) (bx, bY) rings n f) ∧ Hid (Vd.Wy (ax, ay) (bx, bY) rings f n) ∧ Hid (Vd.Cd f) ∧ Hid (ms.length + n ≤ rings.flatten.length + 1))
  case atStart => exact ⟨(ax, ay), _, [], rfl, HU, hS0, HR0, World.ownsRow_nil _ _ _ _, HD.out, hWy.out, HCa.out, by simp [Hid]⟩
  case round =>
    obtain ⟨⟨fx, fy⟩, u, ms, rfl, HU2, hS2, R, HO, HE, HW, HF, HN⟩ := hrel
    obtain ⟨wo, hwo⟩ : ∃ wo : World, wo = wr := ⟨_, rfl⟩
    subst hwo
    clear HU HR0 hS0
    have b0 := R.out.get 1 rfl 0 rfl
    have b1 := R.out.get 1 rfl 1 rfl
    have f0 := R.out.get 3 rfl 0 rfl
    have f1 := R.out.get 3 rfl 1 rfl
    by_cases he : (fx, fy) = (bx, bY)
    · cases he
      have HZ := hide (Vd.midsD_end (a := (ax, ay)) (b := (bx, bY)) (rings := rings) gk)
      go_wp2
      go_ret
      refine ⟨_, rfl, HU2.out, ?_⟩
      have := HE.out
      rw [HZ.out, List.append_nil] at this
      rw [this]; exact own_base HO.out (by have := hA.out; omega)
    · obtain ⟨n', HX0, HX1, HX2⟩ := Vd.wy_step HW.out he
      replace HX0 := hide HX0
      replace HX1 := hide HX1
      replace HX2 := hide HX2
      have HNC := hide (Vd.nextD_cd (a := (ax, ay)) (b := (bx, bY)) (x := (fx, fy)) (rings := rings) HCb.out HC.out)
      obtain ⟨F, hFF⟩ : ∃ F : Pnt → Pnt → Pnt, F = Vd.cutD (ax, ay) (bx, bY) (fx, fy) := ⟨_, rfl⟩
      have HFy : Hid (∀ t p, onB (ax, ay) (bx, bY) (p, 1) = true → dotP (subP (fx, fy) p) (ux, uy) > 0 → dotP (subP p t) (ux, uy) > 0 → F t p = p) := by
        intro t p h1 h2 h3; rw [← HUd.out] at h2 h3; rw [hFF]; exact Vd.cutD_pos (of_decide_eq_true h1) h2 h3
      have HFn : Hid (∀ t p, ¬ (onB (ax, ay) (bx, bY) (p, 1) = true ∧ dotP (subP (fx, fy) p) (ux, uy) > 0 ∧ dotP (subP p t) (ux, uy) > 0) → F t p = t) := by
        intro t p h; rw [← HUd.out] at h; rw [hFF]; exact Vd.cutD_neg fun k => h ⟨decide_eq_true k.1, k.2.1, k.2.2⟩
      have HFx : Hid (Vd.nextD (ax, ay) (bx, bY) (fx, fy) rings = rings.flatten.foldl F (bx, bY)) := by rw [hFF]; exact rfl
      rw [HFx.out] at HX1 HX2 HNC
      have bf := HF.out
      simp only [Vd.Cd] at bf
      clear hFF HFx
      rcases (show fx ≠ bx ∨ (bx = fx ∧ fy ≠ bY) from by by_cases c : fx = bx; exact .inr ⟨c.symm, fun e => he (by rw [c, e])⟩; exact .inl c) with hd | ⟨rfl, hd⟩
      all_goals
        have hd' := beq_eq_false_iff_ne.2 hd
        have hd2 := bne_iff_ne.2 hd
        clear he hd
        go_wp2_with fail
        have RT := hide (new_row (w := wo) (o := .cells #[.int .i64 bx, .int .i64 bY] 32) (vs := ptC (bx, bY)) rfl)
        have HUt : Hid (Up wo (wo.alloc (.cells #[.int .i64 bx, .int .i64 bY] 32))) := (Up.refl _).alloc _
        obtain ⟨T, hT⟩ : ∃ T, wo.heap.size = T := ⟨_, rfl⟩
        rw [hT] at RT ⊢
        generalize wo.alloc (.cells #[.int .i64 bx, .int .i64 bY] 32) = W0 at *
        have HTs := hide hT
        clear b0 b1 f0 f1 hd' hd2 hT
        go_loopw [11] (fun i wq => ∃ (k : Nat) (tu : Pnt), i = .int .i64 k ∧ k ≤ rings.length ∧ Hid (Up wo wq) ∧ Hid (VRow wq T 32 (ptC tu)) ∧ Hid (tu = (rings.take k).flatten.foldl F (bx, bY)) ∧ Hid (Vd.Cd tu)) (fun i _ => rings.length - (intOf i).toNat)
        case atStart => exact ⟨0, (bx, bY), rfl, Nat.zero_le _, HUt, RT, rfl, HCb⟩
        case round =>
          clear HUt RT
          obtain ⟨k, tu, rfl, hk, HUq, RT, HTu, HCt⟩ := hrel
          by_cases hlt : k < rings.length
          · obtain ⟨r, hr⟩ := Pl.some_of_lt hlt
            obtain ⟨bk, y, rfl, cu, hy⟩ := HM.out k r hr
            obtain ⟨ao2, cap2, rfl, hp⟩ := hy
            have HP := hide hp
            have CU := hide (HU2.out.cell cu)
            have hrl := HL.out r (Pl.mem_of_some hr)
            have HCr := hide (HC.out r (Pl.mem_of_some hr))
            have HFl := hide (flat_take hr)
            clear hr cu hp
            go_wp2_with fail
            go_loopw [12] (fun i wq => ∃ (q : Nat) (tu : Pnt), i = .int .i64 q ∧ q ≤ r.length ∧ Hid (Up wo wq) ∧ Hid (VRow wq T 32 (ptC tu)) ∧ Hid (tu = ((rings.take k).flatten ++ r.take q).foldl F (bx, bY)) ∧ Hid (Vd.Cd tu)) (fun i _ => r.length - (intOf i).toNat)
            case atStart => exact ⟨0, tu, rfl, Nat.zero_le _, HUq, RT, by rw [List.take_zero, List.append_nil]; exact HTu, HCt⟩
            case round =>
              clear HUq RT HTu HCt
              obtain ⟨q, ⟨tx, ty⟩, rfl, hq, HUq, RT, HTu, HCt⟩ := hrel
              have cu2 := HUq.out.cell CU.out
              have i1 : (0 : Int) ≤ (k : Int) := by omega
              have i2 : (k : Int) < (rings.length : Int) := by omega
              have i3 : (0 : Int) ≤ (q : Int) := by omega
              try dsimp only at cu2
              by_cases hlq : q < r.length
              · obtain ⟨⟨cx, cy⟩, hxy⟩ := Pl.some_of_lt hlq
                obtain ⟨b2, rfl, c0, c1⟩ := HP.out q (cx, cy) hxy
                have c0' := HUq.out.cell (HU2.out.cell c0)
                have c1' := HUq.out.cell (HU2.out.cell c1)
                try dsimp only at c0' c1'
                have HCc := hide (HCr.out _ (Pl.mem_of_some hxy))
                have HX : Hid ((((rings.take k).flatten ++ r.take (q + 1)).foldl F (bx, bY)) = F (tx, ty) (cx, cy)) := by
                  rw [Pl.take_one hxy, ← List.append_assoc, List.foldl_append, ← HTu.out]; exact rfl
                have R3 := hide ((Rw.cons (x := (T, 32, ptC (tx, ty))) RT.out (R.out.up HUq.out)).newv cx cy 32)
                have HUc : Hid (Up wo (wr.alloc (.cells #[.int .i64 cx, .int .i64 cy] 32))) := HUq.out.alloc _
                have a0 := R3.out.get 2 rfl 0 rfl
                have a1 := R3.out.get 2 rfl 1 rfl
                have b0 := R3.out.get 3 rfl 0 rfl
                have b1 := R3.out.get 3 rfl 1 rfl
                have i4 : (q : Int) < (r.length : Int) := by omega
                clear hxy c0 c1 HTu
                cases ho : onB (ax, ay) (_, bY) ((cx, cy), 1)
                · have Ho := hide ho
                  have HY := hide (HX.out.trans (HFn.out (tx, ty) (cx, cy) (fun x => by rw [ho] at x; exact absurd x.1 (by simp))))
                  clear ho
                  go_wp2_with fail
                  refine (on1_is Ho.out HCa.out HCb.out HCc.out _).mono ?_
                  rintro e w2 ⟨rfl, hz⟩
                  replace HUc := hide (HUc.out.trans hz)
                  replace RT := hide ((R3.out.up hz).tail.head)
                  clear hz a0 a1 b0 b1 c0' c1' cu2 R3
                  go_wp2
                  go_roundw
                  case rel => exact ⟨q + 1, (tx, ty), by go_num, by omega, HUc, RT, HY.out.symm, HCt⟩
                  case measure => simp [intOf]; omega
                · have Ho := hide ho
                  clear ho
                  go_wp2_with fail
                  refine (on1_is Ho.out HCa.out HCb.out HCc.out _).mono ?_
                  rintro e w2 ⟨rfl, hz⟩
                  replace HUc := hide (HUc.out.trans hz)
                  replace R3 := hide (R3.out.up hz)
                  clear hz a0 a1 b0 b1 c0' c1' cu2
                  generalize hCC : wr.heap.size = C at *
                  have bV := hide (sub_bdd HF.out HCc.out)
                  have bW := hide (sub_bdd HCc.out HCt.out)
                  have f0 := R3.out.get 5 rfl 0 rfl
                  have f1 := R3.out.get 5 rfl 1 rfl
                  have c0 := R3.out.get 0 rfl 0 rfl
                  have c1 := R3.out.get 0 rfl 1 rfl
                  have HFb := hide (bdd_mono (cd_bdd HF.out) (B := 4611686018427387903) (by omega))
                  have HCb2 := hide (bdd_mono (cd_bdd HCc.out) (B := 4611686018427387903) (by omega))
                  have HTb := hide (bdd_mono (cd_bdd HCt.out) (B := 4611686018427387903) (by omega))
                  go_wp2_with fail
                  refine (way2_any (_, fy) (cx, cy) HFb.out HCb2.out _).mono ?_
                  rintro e w3 ⟨rfl, hz⟩
                  have HFy2 := hide (HFy.out (tx, ty) (cx, cy) Ho.out)
                  have HFn2 := hide (HFn.out (tx, ty) (cx, cy))
                  generalize subP (_, fy) (cx, cy) = V at *
                  obtain ⟨vx, vy⟩ := V
                  simp only [ptV]
                  replace HUc := hide ((HUc.out.trans hz).alloc (.cells #[.int .i64 vx, .int .i64 vy] 155))
                  replace R3 := hide ((R3.out.up hz).newv vx vy 155)
                  clear hz f0 f1 c0 c1
                  have c0 := R3.out.get 1 rfl 0 rfl
                  have c1 := R3.out.get 1 rfl 1 rfl
                  have t0 := R3.out.get 2 rfl 0 rfl
                  have t1 := R3.out.get 2 rfl 1 rfl
                  go_wp2_with fail
                  refine (way2_any (cx, cy) (tx, ty) HCb2.out HTb.out _).mono ?_
                  rintro e w4 ⟨rfl, hz⟩
                  generalize subP (cx, cy) (tx, ty) = Y at *
                  obtain ⟨yx, yy⟩ := Y
                  simp only [ptV]
                  replace HUc := hide ((HUc.out.trans hz).alloc (.cells #[.int .i64 yx, .int .i64 yy] 155))
                  replace R3 := hide ((R3.out.up hz).newv yx yy 155)
                  clear hz c0 c1 t0 t1
                  have v0 := R3.out.get 1 rfl 0 rfl
                  have v1 := R3.out.get 1 rfl 1 rfl
                  have u0 := R3.out.get 6 rfl 0 rfl
                  have u1 := R3.out.get 6 rfl 1 rfl
                  go_wp2_with fail
                  refine (dot_any (vx, vy) (ux, uy) bV.out bU.out (by omega) (by omega) (by omega) _).mono ?_
                  rintro e w5 ⟨rfl, hz⟩
                  replace HUc := hide (HUc.out.trans hz)
                  replace R3 := hide (R3.out.up hz)
                  clear hz v0 v1 u0 u1
                  have v0 := R3.out.get 0 rfl 0 rfl
                  have v1 := R3.out.get 0 rfl 1 rfl
                  have u0 := R3.out.get 6 rfl 0 rfl
                  have u1 := R3.out.get 6 rfl 1 rfl
                  go_wp2_with fail
                  refine (dot_any (yx, yy) (ux, uy) bW.out bU.out (by omega) (by omega) (by omega) _).mono ?_
                  rintro e w6 ⟨rfl, hz⟩
                  replace HUc := hide (HUc.out.trans hz)
                  replace R3 := hide (R3.out.up hz)
                  clear hz v0 v1 u0 u1
                  generalize dotP (vx, vy) (ux, uy) = D1 at *
                  generalize dotP (yx, yy) (ux, uy) = D2 at *
                  by_cases h1 : D1 > 0
                  · by_cases h2 : D2 > 0
                    · have HY := hide (HX.out.trans (HFy2.out h1 h2))
                      have c0 := R3.out.get 2 rfl 0 rfl
                      have c1 := R3.out.get 2 rfl 1 rfl
                      have RT6 := hide R3.out.tail.tail.tail.head
                      have t0 := RT6.out.cell (i := 0) rfl
                      have t1 := RT6.out.cell (i := 1) rfl
                      have tf := fun i => RT6.out.frozen i
                      have hTq : Hid (wo.heap.size ≤ T) := Nat.le_of_eq HTs.out
                      go_wp2
                      go_roundw
                      case rel => exact ⟨q + 1, (cx, cy), by go_num, by omega, (HUc.out.setCell hTq.out _).setCell hTq.out _, row_set2 RT6.out _ _, HY.out.symm, HCc⟩
                      case measure => simp [intOf]; omega
                    · have HY := hide (HX.out.trans (HFn2.out (fun x => h2 x.2.2)))
                      replace RT := hide R3.out.tail.tail.tail.head
                      go_wp2
                      go_roundw
                      case rel => exact ⟨q + 1, (tx, ty), by go_num, by omega, HUc, RT, HY.out.symm, HCt⟩
                      case measure => simp [intOf]; omega
                  · have HY := hide (HX.out.trans (HFn2.out (fun x => h1 x.2.1)))
                    replace RT := hide R3.out.tail.tail.tail.head
                    go_wp2
                    go_roundw
                    case rel => exact ⟨q + 1, (tx, ty), by go_num, by omega, HUc, RT, HY.out.symm, HCt⟩
                    case measure => simp [intOf]; omega
              · have hq2 : q = r.length := by omega
                subst hq2
                rw [List.take_length, ← HFl.out] at HTu
                go_wp2
                go_roundw
                case rel => exact ⟨k + 1, (tx, ty), by go_num, by omega, HUq, RT, HTu, HCt⟩
                case measure => simp [intOf]; omega
          · have hk2 : k = rings.length := by omega
            subst hk2
            rw [List.take_length] at HTu
            rw [← HTu.out] at HX1 HX2 HNC
            obtain ⟨tx, ty⟩ := tu
            have bt := HCt.out
            simp only [Vd.Cd] at bt
            obtain ⟨bf1, bf2, bf3, bf4⟩ := bf
            obtain ⟨bt1, bt2, bt3, bt4⟩ := bt
            have RR := hide (Rw.cons (x := (T, 32, ptC (tx, ty))) RT.out (R.out.up HUq.out))
            have f0 := RR.out.get 4 rfl 0 rfl
            have f1 := RR.out.get 4 rfl 1 rfl
            have t0 := RR.out.get 0 rfl 0 rfl
            have t1 := RR.out.get 0 rfl 1 rfl
            have HOA : Hid (∀ o, (wr.alloc o).ownsRow (A + 2) 32 2 u ms.length (flat (ms.map (·.1)))) := fun o => (own_up HO.out HUq.out).alloc o
            have hb : Hid (ms.length ≤ 1073741824) := by have := HN.out; show _ ≤ _; omega
            have hsz : Hid (A + 2 ≤ wr.heap.size) := Nat.le_trans hS2.out HUq.out.size
            have hnT : Hid (u.ownBlock ≠ some T) := fun e => by have := (own_lt HO.out e).2; have := HTs.out; omega
            have hnL : Hid (∀ x, x < A + 2 → u.ownBlock ≠ some x) := fun x hx e => by have := (own_lt HO.out e).1; omega
            go_wp2_with (at_builtin; (first | refine wpList_app el_pts rfl (.tmp 74) (.tmp 86) rfl (A + 2) _ _ _ (by rfl) (HOA.out _) wr.heap.size [.int .i64 (fx + tx), .int .i64 (fy + ty)] (by rfl) rfl (heap_alloc_new wr _) (by intro x hx; simp at hx; rcases hx with rfl | rfl <;> rfl) hb.out (by simp; have := hsz.out; omega) ?_ | refine wpList_app el_pts rfl (.tmp 74) (.tmp 86) rfl (A + 2) _ _ _ (by rfl) (HOA.out _) wr.heap.size [.int .i64 (bx + tx), .int .i64 (fy + ty)] (by rfl) rfl (heap_alloc_new wr _) (by intro x hx; simp at hx; rcases hx with rfl | rfl <;> rfl) hb.out (by simp; have := hsz.out; omega) ?_); intro g cap w5 hown5 hg5 hat5 hlt5; have HO5 := hide hown5; have R5 := hide ((RR.out.alloc _).grown hg5 (by intro x hx; rcases List.mem_cons.1 hx with rfl | hx; exact hnT.out; refine hnL.out _ ?_; have := hA.out; simp only [RO, List.mem_cons, List.not_mem_nil, or_false] at hx; rcases hx with rfl | rfl | rfl | rfl <;> simp only <;> omega)); have HU5 : Hid (Up w w5) := Fr.up (S := fun _ => False) (((Fr.of_up (HU2.out.trans HUq.out)).alloc _).grown hg5 fun x hx => .inr (Nat.le_trans (by have := hA.out; omega) (own_lt HO.out hx).1)) (fun _ _ h => h); have k0 := R5.out.get 0 rfl 0 rfl; have k1 := R5.out.get 0 rfl 1 rfl; have l0 := R5.out.get 4 rfl 0 rfl; have l1 := R5.out.get 4 rfl 1 rfl; have lf := fun i => R5.out.tail.tail.tail.tail.head.frozen i; clear hown5 hg5 hat5 hlt5 f0 f1 t0 t1)
            go_roundg n'
            case rel =>
              have hn5 : Value.ownBlock (.slice (some ⟨g, 0, none⟩) (ms.length + 1) cap) ≠ some (A + 1) := fun e => by have := (own_lt HO5.out e).1; omega
              have HO6 := own_set (own_set HO5.out (a := ⟨A + 1, 0, none⟩) hn5 (.int .i64 tx)) (a := ⟨A + 1, 1, none⟩) hn5 (.int .i64 ty)
              first | refine ⟨(tx, ty), _, ms ++ [((fx + tx, fy + ty), 2)], rfl, (HU5.out.setCell (by have := hA.out; show w.heap.size ≤ A + 1; omega) _).setCell (by have := hA.out; show w.heap.size ≤ A + 1; omega) _, ?_, RO.set hA.out R5.out.tail tx ty, ?_, ?_, HX2.out, HCt.out, ?_⟩
                    | refine ⟨(tx, ty), _, ms ++ [((bx + tx, fy + ty), 2)], rfl, (HU5.out.setCell (by have := hA.out; show w.heap.size ≤ A + 1; omega) _).setCell (by have := hA.out; show w.heap.size ≤ A + 1; omega) _, ?_, RO.set hA.out R5.out.tail tx ty, ?_, ?_, HX2.out, HCt.out, ?_⟩
              · have := own_lt HO6 (g := g) rfl
                exact Nat.le_of_lt (Nat.lt_of_le_of_lt this.1 this.2)
              · rw [List.map_append, flat_append, List.length_append]; exact HO6
              · rw [HE.out, HX1.out, List.append_assoc]; exact rfl
              · have := HN.out; have := HX0.out; simp only [Hid, List.length_append, List.length_singleton]; omega
            case measure => have := HX0.out; omega
end Go.Proofs.YtcclepohmhdpbaaGreatDoor
