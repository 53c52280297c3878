import Derived.Test.YtoanonklmmbhgaaGreatDoorJdH
import Derived.LaidEqlPtr
import Derived.Test.YtoanonklmmbhgaaGreatDoorDec
import Derived.Test.YtoanonklmmbhgaaGreatDoorLaw
import Derived.Test.YtoanonklmmbhgaaGreatDoorJdB
import Derived.Test.YtoanonklmmbhgaaGreatDoorTxF
/- THE DOCUMENT's JSON: members by their names. -/
namespace Go.Proofs.YtoanonklmmbhgaaGreatDoor
set_option linter.all false
open Go.RowKit Go.Deep

namespace Js
/-- The places of the members of a name. -/
def sel (n : List Int) : List (List Int × V) → List Nat → List Nat
  | x :: r, q :: qs => if x.1 = n then q :: sel n r qs else sel n r qs
  | _, _ => []
theorem sel_step {n : List Int} {acc : List (List Int × V)} {qs : List Nat} {i q : Nat} {x : List Int × V} (hx : acc[i]? = some x) (hq : qs[i]? = some q) : sel n (acc.drop i) (qs.drop i) = if x.1 = n then q :: sel n (acc.drop (i + 1)) (qs.drop (i + 1)) else sel n (acc.drop (i + 1)) (qs.drop (i + 1)) := by
  have hi := (List.getElem?_eq_some_iff.1 hx).1
  have hj := (List.getElem?_eq_some_iff.1 hq).1
  have hx' : acc[i] = x := (List.getElem?_eq_some_iff.1 hx).2
  have hq' : qs[i] = q := (List.getElem?_eq_some_iff.1 hq).2
  rw [List.drop_eq_getElem_cons hi, List.drop_eq_getElem_cons hj, hx', hq']
  rfl
theorem sel_end {n : List Int} {acc : List (List Int × V)} {qs : List Nat} {i : Nat} (h : acc.length ≤ i) : sel n (acc.drop i) (qs.drop i) = [] := by
  rw [List.drop_of_length_le h]; rfl
theorem sel_le (n : List Int) : ∀ (acc : List (List Int × V)) (qs : List Nat), (sel n acc qs).length ≤ qs.length
  | [], qs => by simp [sel]
  | x :: r, [] => by simp [sel]
  | x :: r, q :: qs => by
    have := sel_le n r qs
    simp only [sel]
    split <;> simp <;> omega
end Js

structure DN (w wr : World) (u : Value) (os : List Nat) : Prop where
  own : wr.ownsRow w.heap.size 92 1 u os.length (os.map Js.ptr)
  up : Up w wr
theorem DN.step {w wr w4 w5 : World} {v : Value} {os : List Nat} {p : Nat} {g cap : Nat} (h : DN w wr v os) (u : Up wr w4) (hown : w5.ownsRow w.heap.size 92 1 (.slice (some ⟨g, 0, none⟩) (os.length + 1) cap) (os.length + 1) (os.map Js.ptr ++ [.pointer (some ⟨p, 0, none⟩)])) (hg : (w4.alloc (.cells #[.pointer (some ⟨p, 0, none⟩)] 92)).grownBy w5 v.ownBlock) :
    DN w w5 (.slice (some ⟨g, 0, none⟩) (os.length + 1) cap) (os ++ [p]) :=
  ⟨by rw [List.map_append, List.length_append]; exact hown, up_grown ((h.up.trans u).alloc _) hg fun k hk => (own_lt h.own hk).1⟩

def NdPost (n : List Int) (acc : List (List Int × Js.V)) (qs : List Nat) (w : World) (e : Ending) (w' : World) : Prop :=
  ∃ u, e = .returned u ∧ DN w w' u (Js.sel n acc qs)

set_option maxRecDepth 100000 in
set_option maxHeartbeats 8000000 in
theorem named_any (k : List UInt8) (hk : k.length ≤ 6000) (b : Nat) (acc : List (List Int × Js.V)) (nv lv : Value) (ys : List Js.NC) (qs : List Nat) (d : Int) (w : World) (hrow : VRow w b 98 (Js.vcells 4 [] Js.nilS nv lv d)) (hR : Js.Rows (fun b => b < w.heap.size) w nv lv ys qs) (hn : ys.map Js.NC.c = acc.map Prod.fst) (hq : qs.length = acc.length) :
    Calls Tryz.prog 58 #[.pointer (some ⟨b, 0, none⟩), .string (bs k)] w (NdPost (Js.up k) acc qs w) := by
  have HROW := hide hrow
  have HR := hide hR
  have HN := hide hn
  have HQ := hide hq
  have hyl : ys.length = qs.length := by
    have h1 := congrArg List.length hn
    rw [List.length_map, List.length_map] at h1
    omega
  have HYL := hide hyl
  obtain ⟨na, nc, rfl⟩ := own_len hR.ownN
  obtain ⟨la, lc, rfl⟩ := own_len hR.ownL
  have hy6 : ys.length ≤ 6000 := hR.lenN
  have HS0 : Hid (DN w w (.slice none 0 0) []) := ⟨World.ownsRow_nil _ _ _ _, Up.refl _⟩
  clear hrow hR hn hq hyl
  go_enter Tryz.func58, Tryz.ntmps58
  go_wp2
  go_loopw [5, 6] (fun ov iv wr => ∃ (i : Nat) (os : List Nat) (u : Value), u = ov ∧ iv = .int .i64 i ∧ i ≤ ys.length ∧ os.length ≤ i ∧ Hid (DN w wr u os) ∧ Hid (Js.sel (Js.up k) acc qs = os ++ Js.sel (Js.up k) (acc.drop i) (qs.drop i))) (fun _ iv _ => ys.length - (intOf iv).toNat)
  case atStart => exact ⟨0, [], _, rfl, rfl, Nat.zero_le _, Nat.le_refl _, HS0, by simp [Hid]⟩
  case round =>
    obtain ⟨wo, hw⟩ : ∃ x, x = wr := ⟨_, rfl⟩
    subst hw
    obtain ⟨i, os, u, rfl, rfl, hi, hoi, HI, HT⟩ := hrel
    obtain ⟨ua, un, uc, rfl⟩ : ∃ a n c, u = .slice a n c := own_shape HI.out.own
    obtain rfl : un = os.length := by obtain ⟨a, c, e⟩ := own_len HI.out.own; cases e; rfl
    have hU := HI.out.up
    have hrowr := HROW.out.of_block (hU.block _ HROW.out.lt)
    have q3 := hrowr.cell (i := 3) rfl
    have q4 := hrowr.cell (i := 4) rfl
    have HU := hide hU
    clear hrowr hU
    by_cases hlt : i < ys.length
    · obtain ⟨y, hy⟩ : ∃ y, ys[i]? = some y := ⟨ys[i], List.getElem?_eq_getElem _⟩
      obtain ⟨p, hp⟩ : ∃ p, qs[i]? = some p := ⟨qs[i]'(by rw [← HYL.out]; exact hlt), List.getElem?_eq_getElem _⟩
      obtain ⟨x, hx⟩ : ∃ x, acc[i]? = some x := ⟨acc[i]'(by rw [← HQ.out, ← HYL.out]; exact hlt), List.getElem?_eq_getElem _⟩
      have HXY : Hid (y.c = x.1) := by
        have h1 := congrArg (fun l => l[i]?) HN.out
        simp only [List.getElem?_map, hy, hx, Option.map_some, Option.some.injEq] at h1
        exact h1
      obtain ⟨gn, capn, e, hcn⟩ := own_cell (own_up HR.out.ownN HU.out) (by omega)
      cases e
      obtain ⟨gl, capl, e, hcl⟩ := own_cell (own_up HR.out.ownL HU.out) (by rw [← HYL.out]; omega)
      cases e
      have hyok := HR.out.oks y (List.mem_of_getElem? hy)
      obtain ⟨yv, yc⟩ := y
      obtain ⟨ya, yn, yc', rfl⟩ : ∃ a n c, yv = .slice a n c := own_shape hyok.own
      have cn : wo.cell? ⟨gn, i, none⟩ = some (.slice ya yn yc') := hcn i _ (by simp [hy])
      have cl : wo.cell? ⟨gl, i, none⟩ = some (.pointer (some ⟨p, 0, none⟩)) := hcl i _ (by simp [hp, Js.ptr])
      have hlq : i < qs.length := by rw [← HYL.out]; exact hlt
      have HSP := hide (spells_any yc k _ _ wo (own_up hyok.own HU.out) hyok.len hk)
      have HST := hide (Js.sel_step (n := Js.up k) hx hp)
      have HXY2 : Hid (yc = x.1) := HXY.out
      clear hcn hcl hyok hy hp hx HXY
      by_cases hc : yc = Js.up k
      · rw [decide_eq_true hc] at HSP
        have HG : Hid (Js.sel (Js.up k) acc qs = (os ++ [p]) ++ Js.sel (Js.up k) (acc.drop (i + 1)) (qs.drop (i + 1))) := by
          show _ = _
          rw [HT.out, HST.out, if_pos (HXY2.out.symm.trans hc)]
          simp
        have hrb : Hid (os.length ≤ 1073741824) := by show _ ≤ _; omega
        have hsz := hide HI.out.up.size
        clear hc HST HT
        go_wp2_with fail
        refine HSP.out.mono ?_
        rintro e w2 ⟨rfl, n2, rfl⟩
        have HO2 : Hid ((wo.drewN n2).ownsRow w.heap.size 92 1 (.slice ua os.length uc) os.length (os.map Js.ptr)) := own_up HI.out.own ((Up.refl _).drewN n2)
        have HOA := hide (HO2.out.alloc (.cells #[.pointer (some ⟨p, 0, none⟩)] 92))
        go_wp2_with (at_builtin; refine wpList_app el_vals rfl (.tmp 27) (.tmp 35) rfl w.heap.size _ _ _ (by rfl) HOA.out (wo.drewN n2).heap.size [.pointer (some ⟨p, 0, none⟩)] (by rfl) rfl (heap_alloc_new (wo.drewN n2) _) (by intro u hu; simp at hu; subst hu; rfl) hrb.out (by simp; have := hsz.out; omega) ?_; intro g cap w5 hown5 hg5 hat5 hlt5; have hq5 := hide (HI.out.step ((Up.refl _).drewN n2) hown5 hg5); clear hat5 hlt5 hown5 hg5)
        go_roundw
        case rel => exact ⟨i + 1, os ++ [p], _, rfl, by go_num, by omega, by simp; omega, hq5, HG⟩
        case measure => simp [intOf]; omega
      · rw [decide_eq_false hc] at HSP
        have HG : Hid (Js.sel (Js.up k) acc qs = os ++ Js.sel (Js.up k) (acc.drop (i + 1)) (qs.drop (i + 1))) := by
          show _ = _
          rw [HT.out, HST.out, if_neg (fun e => hc (HXY2.out.trans e))]
        clear hc HST HT
        go_wp2_with fail
        refine HSP.out.mono ?_
        rintro e w2 ⟨rfl, n2, rfl⟩
        go_wp2
        go_roundw
        case rel => exact ⟨i + 1, os, _, rfl, by go_num, by omega, by omega, ⟨own_up HI.out.own ((Up.refl _).drewN n2), HI.out.up.drewN n2⟩, HG⟩
        case measure => simp [intOf]; omega
    · have HE : Hid (Js.sel (Js.up k) acc qs = os) := by
        show _ = _
        rw [HT.out, Js.sel_end (by rw [← HQ.out, ← HYL.out]; omega)]
        simp
      clear HT
      go_wp2
      go_ret
      exact ⟨_, rfl, by rw [HE.out]; exact HI.out⟩
end Go.Proofs.YtoanonklmmbhgaaGreatDoor

/- THE DOCUMENT's JSON: the object's members, plainly. -/
namespace Go.Proofs.YtoanonklmmbhgaaGreatDoor
set_option linter.all false
open Go.RowKit Go.Deep

namespace Js
theorem ofM_inj : ∀ {a b : List (List Int × V)}, ofM a = ofM b → a = b
  | [], [], _ => rfl
  | [], y :: b, h => by cases h
  | x :: a, [], h => by cases h
  | x :: a, y :: b, h => by
    simp only [ofM, V.cons.injEq] at h
    obtain ⟨h1, h2, h3⟩ := h
    rw [ofM_inj h3, show x = y from Prod.ext h1 h2]
theorem set_none {l : List UInt8} (h : rd 6000 l = none) : set l = none := by
  rw [set_rd 5999 (by omega)]
  rw [rd_eq] at h
  unfold list0
  by_cases h1 : Tx.at_ (Tx.bare l) 0 = 123
  · have hl : list0 123 125 (mem true (rd 5999)) l = none := by
      rw [if_neg (by omega), if_pos h1] at h
      simp only [lstD, Option.map_eq_none_iff] at h
      exact h
    unfold list0 at hl
    rw [hl]; rfl
  · rw [pre1f (by simpa using h1)]; rfl
theorem set_other {l t : List UInt8} {v : V} (h : rd 6000 l = some (v, t)) (hv : kd v ≠ 4) : set l = none := by
  rw [set_rd 5999 (by omega)]
  rw [rd_eq] at h
  by_cases h1 : Tx.at_ (Tx.bare l) 0 = 123
  · rw [if_neg (by omega), if_pos h1] at h
    simp only [lstD, Option.map_eq_some_iff] at h
    obtain ⟨x, -, h⟩ := h
    cases h
    exact absurd rfl hv
  · unfold list0
    rw [pre1f (by simpa using h1)]; rfl
theorem set_obj {l t : List UInt8} {acc : List (List Int × V)} (h : rd 6000 l = some (.obj (ofM acc), t)) : set l = (answer acc).map fun y => (y.1, t, y.2) := by
  rw [set_rd 5999 (by omega)]
  rw [rd_eq] at h
  by_cases h1 : Tx.at_ (Tx.bare l) 0 = 123
  · rw [if_neg (by omega), if_pos h1] at h
    simp only [lstD, Option.map_eq_some_iff] at h
    obtain ⟨⟨ms, s⟩, h2, h⟩ := h
    simp only [Prod.mk.injEq, V.obj.injEq] at h
    rw [h2, ofM_inj h.1, h.2]
    rfl
  · rw [if_neg h1] at h
    split at h
    · simp only [lstD, Option.map_eq_some_iff] at h
      obtain ⟨x, -, h⟩ := h
      simp at h
    · exact absurd rfl ((leaf_deep h).2.2 _)
theorem err_none {l : List UInt8} (h : set l = none) : err l = 3 := by unfold err; rw [h]
theorem err_rest {l t : List UInt8} {A : Option (Mult × Bool)} (h : set l = A.map fun y => (y.1, t, y.2)) (ht : Tx.bare t ≠ []) : err l = 3 := by
  unfold err
  rw [h]
  cases A with
  | none => rfl
  | some y =>
    cases hb : Tx.bare t with
    | nil => exact absurd hb ht
    | cons a r => simp [Tx.fin, hb]
def ansE : Option (Mult × Bool) → Int
  | none => 3
  | some y => if y.2 = true then 4 else 0
theorem err_ans {l t : List UInt8} {A : Option (Mult × Bool)} (h : set l = A.map fun y => (y.1, t, y.2)) (ht : Tx.bare t = []) : err l = ansE A ∧ ∀ m o, A = some (m, o) → got l = m := by
  constructor
  · unfold err
    rw [h]
    cases A with
    | none => rfl
    | some y => simp [Tx.fin, ht, ansE]
  · intro m o e
    unfold got
    rw [h, e]
    rfl
theorem sel_named (n : List Int) : ∀ (acc : List (List Int × V)) (qs : List Nat), qs.length = acc.length → (sel n acc qs).length = (named n acc).length
  | [], qs, _ => rfl
  | x :: r, [], h => by simp at h
  | x :: r, q :: qs, h => by
    have ih := sel_named n r qs (by simpa using h)
    simp only [sel, named]
    by_cases hx : x.1 = n
    · simp only [hx, if_true, List.length_cons, ih]
      simp [named, hx]
    · simp only [hx, if_false, ih]
      simp [named, hx]
theorem named_nil {n : List Int} {acc : List (List Int × V)} (h : named n acc = []) : ∀ x ∈ acc, x.1 ≠ n := by
  intro x hx e
  have : x.2 ∈ named n acc := List.mem_map.2 ⟨x, List.mem_filter.2 ⟨hx, by simp [e]⟩, rfl⟩
  rw [h] at this
  simp at this
theorem sel_one (n : List Int) : ∀ (acc : List (List Int × V)) (qs : List Nat) (p : Nat), qs.length = acc.length → sel n acc qs = [p] → ∃ (i : Nat) (x : List Int × V), acc[i]? = some x ∧ qs[i]? = some p ∧ x.1 = n ∧ named n acc = [x.2] ∧ ∀ (j : Nat) (y : List Int × V), acc[j]? = some y → y.1 = n → j = i
  | [], qs, p, _, h => by simp [sel] at h
  | x :: r, [], p, h, _ => by simp at h
  | x :: r, q :: qs, p, hl, h => by
    simp only [sel] at h
    by_cases hx : x.1 = n
    · rw [if_pos hx] at h
      simp only [List.cons.injEq] at h
      obtain ⟨rfl, h⟩ := h
      have hn : named n r = [] := List.length_eq_zero_iff.1 (by rw [← sel_named n r qs (by simpa using hl), h]; rfl)
      refine ⟨0, x, rfl, rfl, hx, ?_, fun j y hy he => ?_⟩
      · have : named n (x :: r) = x.2 :: named n r := by simp [named, hx]
        rw [this, hn]
      · cases j with
        | zero => rfl
        | succ j => exact absurd he (named_nil hn y (List.mem_of_getElem? (by simpa using hy)))
    · rw [if_neg hx] at h
      obtain ⟨i, y, h1, h2, h3, h4, h5⟩ := sel_one n r qs p (by simpa using hl) h
      refine ⟨i + 1, y, by simpa using h1, by simpa using h2, h3, ?_, fun j z hz he => ?_⟩
      · have : named n (x :: r) = named n r := by simp [named, hx]
        rw [this, h4]
      · cases j with
        | zero =>
          simp at hz
          subst hz
          exact absurd he hx
        | succ j => rw [h5 j z (by simpa using hz) he]
theorem answer_len1 {acc : List (List Int × V)} (h : (named typeN acc).length ≠ 1) : answer acc = none := by unfold answer; rw [if_neg (fun e => h e.1)]
theorem answer_len2 {acc : List (List Int × V)} (h : (named listN acc).length ≠ 1) : answer acc = none := by unfold answer; rw [if_neg (fun e => h e.2.1)]
theorem answer_bad {acc : List (List Int × V)} (h : good acc = false) : answer acc = none := by unfold answer; rw [if_neg (fun e => by rw [h] at e; simp at e)]
theorem answer_good {acc : List (List Int × V)} {a v : V} (h1 : named typeN acc = [a]) (h2 : named listN acc = [v]) (h : good acc = true) : answer acc = cPolys v false := by
  unfold answer
  rw [if_pos ⟨by rw [h1]; rfl, by rw [h2]; rfl, h⟩, h2]
theorem good_at {acc : List (List Int × V)} {i : Nat} {x : List Int × V} (hx : acc[i]? = some x) (h : (if x.1 = typeN then isTT x.2 else if x.1 = listN then true else decide (x.2.deep ≤ 16)) = false) : good acc = false := by
  unfold good
  rw [List.all_eq_false]
  exact ⟨x, List.mem_of_getElem? hx, by rw [h]; simp⟩
theorem good_all {acc : List (List Int × V)} (h : ∀ (i : Nat) (x : List Int × V), acc[i]? = some x → (if x.1 = typeN then isTT x.2 else if x.1 = listN then true else decide (x.2.deep ≤ 16)) = true) : good acc = true := by
  unfold good
  rw [List.all_eq_true]
  intro x hx
  obtain ⟨i, hi⟩ := List.getElem?_of_mem hx
  exact h i x hi
theorem kd_txt {v : V} (h : kd v = 2) : ∃ c, v = .txt c := by
  cases v <;> first | exact ⟨_, rfl⟩ | cases h
theorem kd_obj {v : V} (h : kd v = 4) : ∃ m, v = .obj m := by
  cases v <;> first | exact ⟨_, rfl⟩ | cases h
theorem isTT_not {v : V} (h : kd v ≠ 2) : isTT v = false := by
  cases v <;> first | rfl | exact absurd rfl h
theorem sorted_ne {qs : List Nat} (h : qs.Pairwise (· < ·)) {i j p q : Nat} (hi : qs[i]? = some p) (hj : qs[j]? = some q) (hij : i ≠ j) : p ≠ q := by
  obtain ⟨hi1, hi2⟩ := List.getElem?_eq_some_iff.1 hi
  obtain ⟨hj1, hj2⟩ := List.getElem?_eq_some_iff.1 hj
  have hp := List.pairwise_iff_getElem.1 h
  rcases Nat.lt_or_ge i j with hlt | hge
  · have := hp i j hi1 hj1 hlt
    omega
  · have := hp j i hj1 hi1 (by omega)
    omega
theorem Ok.obj_ {K : Nat → Prop} {w : World} {m : V} {p : Nat} (h : Ok K w (.obj m) [p]) : K p ∧ ∃ acc nv lv ys qs, m = ofM acc ∧ qs.length = acc.length ∧ VRow w p 98 (vcells 4 [] nilS nv lv ((m.deep : Int) + 1)) ∧ Rows K w nv lv ys qs ∧ ys.map NC.c = acc.map Prod.fst ∧ Ok K w (ofM acc) qs := by
  obtain ⟨b, nv, lv, ys, qs, h1, h2, h3, h4, h5, h6, acc, rfl⟩ := h
  cases h1
  exact ⟨h2, acc, nv, lv, ys, qs, rfl, (Ok.kids h6).1, h3, h4, by rw [h5, names_ofM], h6⟩
theorem Ok.txt_ {K : Nat → Prop} {w : World} {c : List Int} {p : Nat} (h : Ok K w (.txt c) [p]) : ∃ cv, VRow w p 98 (vcells 2 [] cv nilS nilS 0) ∧ NC.ok K w ⟨cv, c⟩ := by
  obtain ⟨b, cv, h1, h2, h3, h4⟩ := h
  cases h1
  exact ⟨cv, h3, h4⟩
end Js

theorem und_pval : Tryz.prog.underlying 92 = some (.pointer 98) := by kernel_rfl
theorem info_val : (Tryz.prog.info? 98).map (fun i => i.size) = some 6 := by kernel_rfl
theorem neq_same (W : World) (a : Addr) : (binOp .neq 92 (.pointer (some a)) (.pointer (some a))).run Tryz.prog W = .ok (.bool false) W := by
  obtain ⟨j, hj, hs⟩ := Option.map_eq_some_iff.1 info_val
  have h : ∀ d : Nat, (Op.equalIn (d + 1) 92 (.pointer (some a)) (.pointer (some a))).run Tryz.prog W = .ok true W := fun d => by
    simp [Op.equalIn, run_underlying und_pval, sizeOf, typeInfo, hj, run_sameAddr_same]
  simp only [binOp]
  simp [Op.equal, Op.maxDepth, h 9999]
theorem neq_other (W : World) {p q : Nat} {vs us : List Value} {t u : TypeId} (hne : p ≠ q) (hp : VRow W p t vs) (hq : VRow W q u us) : (binOp .neq 92 (.pointer (some ⟨p, 0, none⟩)) (.pointer (some ⟨q, 0, none⟩))).run Tryz.prog W = .ok (.bool true) W := by
  obtain ⟨j, hj, hs⟩ := Option.map_eq_some_iff.1 info_val
  have hsz : j.size ≠ 0 := by rw [hs]; decide
  have hab : (⟨p, 0, none⟩ : Addr) ≠ ⟨q, 0, none⟩ := fun e => hne (congrArg Addr.block e)
  have h : ∀ d : Nat, (Op.equalIn (d + 1) 92 (.pointer (some ⟨p, 0, none⟩)) (.pointer (some ⟨q, 0, none⟩))).run Tryz.prog W = .ok false W := fun d => by
    simp [Op.equalIn, run_underlying und_pval, sizeOf, typeInfo, hj, hsz, run_sameAddr_other W hab hp hq]
  simp only [binOp]
  simp [Op.equal, Op.maxDepth, h 9999]
end Go.Proofs.YtoanonklmmbhgaaGreatDoor

/- THE DOCUMENT's JSON: polygons. -/
namespace Go.Proofs.YtoanonklmmbhgaaGreatDoor
set_option linter.all false
open Go.RowKit Go.Deep

def DPlPost (v : Js.V) (wide : Bool) (sb : Nat) (w : World) (e : Ending) (w' : World) : Prop :=
  ∃ (x : L3) (bad' wide' : Bool), e = .returned x.v ∧ x.ok w' ∧ SD w' sb [] bad' wide' ∧ Fr (· = sb) w w' ∧ Js.cPolys v wide = (if bad' = true then none else some (x.m, wide'))

set_option maxRecDepth 100000 in
set_option maxHeartbeats 16000000 in
theorem dPolys_any (v : Js.V) (hi : Js.isVal v = true) (b sb : Nat) (wide : Bool) (w : World) (hs : SD w sb [] false wide) (hv : Js.Ok (KT sb w) w v [b]) :
    Calls Tryz.prog 60 #[.pointer (some ⟨sb, 0, none⟩), .pointer (some ⟨b, 0, none⟩)] w (DPlPost v wide sb w) := by
  by_cases hk : Js.kd v = 3
  · obtain ⟨m, rfl⟩ := Js.kd_lst hk
    obtain ⟨hb, acc, la, lc, qs, rfl, hql, hq6, hrow, hown, hkids⟩ := hv.lst_
    have HTC : Hid (Js.cPolys (.lst (Js.ofM acc)) wide = Js.mapS (fun x o => Js.cPoly x.2 o) acc wide) := Js.mapV_ofM Js.cPoly acc wide
    obtain ⟨T, hT⟩ : ∃ T, T = Js.mapS (fun (x : List Int × Js.V) o => Js.cPoly x.2 o) acc wide := ⟨_, rfl⟩
    rw [← hT] at HTC
    have HT0 : Hid (T = if false = true then none else Js.preS ([] : List Poly) (Js.mapS (fun (x : List Int × Js.V) o => Js.cPoly x.2 o) (acc.drop 0) wide)) := by
      show _ = _
      rw [hT, List.drop_zero]
      cases Js.mapS (fun (x : List Int × Js.V) o => Js.cPoly x.2 o) acc wide <;> rfl
    have HQL := hide hql
    have HKIDS := hide hkids
    have HROW := hide hrow
    have HOWN := hide hown
    have r0 := hrow.cell (i := 0) rfl
    obtain ⟨c0, c1, c2, f0, f1, f2⟩ := hs.facts
    have HS := hide hs
    have hne : b ≠ sb := hb.2
    have hne2 : sb ≠ b := fun e => hne e.symm
    obtain ⟨w1, hw1⟩ : ∃ W, W = w.setCell ⟨sb, 1, none⟩ (.bool false) := ⟨_, rfl⟩
    have HF1 : Hid (Fr (· = sb) w w1) := by rw [hw1]; exact (Fr.refl (· = sb) _).setCell (p := ⟨sb, 1, none⟩) rfl _
    have HS1 : Hid (SD w1 sb [] false wide) := by rw [hw1]; exact hs.bad false
    have HQ : Hid (Q3 w1 w1 sb (.slice none 0 0) [] [] false wide) := Q3.start HS1.out (by simp)
    have HW1 := hide hw1
    clear hk hrow hv hb hs c0 c2 f0 f2 hql hkids hown hT hw1
    go_enter Tryz.func60, Tryz.ntmps60
    go_wp2
    rw [← HW1.out]
    go_loopw [5, 6] (fun mv iv wr => ∃ (i : Nat) (r : List L2) (bad o : Bool) (u : Value), u = mv ∧ iv = .int .i64 i ∧ i ≤ qs.length ∧ r.length = i ∧ Hid (Q3 w1 wr sb u r [] bad o) ∧ Hid (T = if bad = true then none else Js.preS (r.map L2.pts) (Js.mapS (fun (x : List Int × Js.V) o => Js.cPoly x.2 o) (acc.drop i) o))) (fun _ iv _ => qs.length - (intOf iv).toNat)
    case atStart => exact ⟨0, [], false, wide, _, rfl, rfl, Nat.zero_le _, rfl, HQ, HT0⟩
    case round =>
      obtain ⟨wo, hw⟩ : ∃ x, x = wr := ⟨_, rfl⟩
      subst hw
      obtain ⟨i, r, bad, o, u, rfl, rfl, hil, hri, HI, HT⟩ := hrel
      obtain ⟨ua, un, uc, rfl⟩ : ∃ a n c, u = .slice a n c := own_shape HI.out.own
      obtain rfl : un = r.length := by obtain ⟨a, c, e⟩ := own_len HI.out.own; cases e; rfl
      have hF : Fr (· = sb) w wo := HF1.out.trans HI.out.fr
      have hrowr := hF.row HROW.out hne
      have hownr : wo.ownsRow 0 92 1 (.slice la qs.length lc) qs.length (qs.map Js.ptr) := own_fr HOWN.out hF fun g hg e => own_row_ne HOWN.out HS.out (by decide) (e ▸ hg)
      have hkidr := HKIDS.out.fr hF
      have q4 := hrowr.cell (i := 4) rfl
      have s1 := HI.out.sd.c1
      have g1 := HI.out.sd.f 1
      have HRI := hide hri
      clear hri
      by_cases hlt : i < qs.length
      case neg =>
        have HE : Hid (T = if bad = true then none else some (r.map L2.pts, o)) := by
          have hia : i = acc.length := by rw [← HQL.out]; omega
          have h := HT.out
          rw [hia, Js.mapS_end] at h
          exact h
        clear hkidr hownr hrowr HT
        go_wp2
        go_ret
        exact ⟨⟨.slice ua r.length uc, r⟩, bad, o, rfl, ⟨own_base HI.out.own (Nat.zero_le _), HI.out.sub⟩, HI.out.sd, HF1.out.trans HI.out.fr, by rw [HTC.out, HE.out]; rfl⟩
      cases bad
      case true =>
        have HE : Hid (T = none) := HT.out
        clear hkidr hownr hrowr HT
        go_wp2
        go_ret
        exact ⟨⟨.slice ua r.length uc, r⟩, true, o, rfl, ⟨own_base HI.out.own (Nat.zero_le _), HI.out.sub⟩, HI.out.sd, HF1.out.trans HI.out.fr, by rw [HTC.out, HE.out]; rfl⟩
      obtain ⟨p, hp⟩ : ∃ p, qs[i]? = some p := ⟨qs[i], List.getElem?_eq_getElem _⟩
      obtain ⟨⟨xn, xv⟩, hx, hxok, hxv⟩ := (Js.Ok.kids hkidr).2 i p hp
      obtain ⟨g, cap, e, hcell⟩ := own_cell hownr (by omega)
      cases e
      have hci : wo.cell? ⟨g, i, none⟩ = some (.pointer (some ⟨p, 0, none⟩)) := hcell i _ (by simp [hp, Js.ptr])
      have HST := hide (Js.mapS_step (c := fun (x : List Int × Js.V) o => Js.cPoly x.2 o) (r := r.map L2.pts) (o := o) hx)
      have HTS : Hid (T = (Js.cPoly xv o).bind fun y => Js.preS (r.map L2.pts ++ [y.1]) (Js.mapS (fun (x : List Int × Js.V) o => Js.cPoly x.2 o) (acc.drop (i + 1)) y.2)) := HT.out.trans HST.out
      obtain ⟨hKp, sx, cvx, nvx, lax, lnx, lcx, hrp⟩ := hxok.node hxv
      have hpne : p ≠ sb := hKp.2
      have hpne2 : sb ≠ p := fun e => hpne e.symm
      have hgne : g ≠ sb := fun e => own_row_ne hownr HI.out.sd (by decide) (by rw [e]; rfl)
      have hgne2 : sb ≠ g := fun e => hgne e.symm
      obtain ⟨kx, hkx⟩ : ∃ k, k = Js.kd xv := ⟨_, rfl⟩
      rw [← hkx] at hrp
      have y0 := hrp.cell (i := 0) rfl
      have y4 := hrp.cell (i := 4) rfl
      have HHF := hide hF
      have hr6 : r.length + 1 ≤ 6000 := by rw [HRI.out]; omega
      have hrb : Hid (r.length ≤ 1073741824) := by show _ ≤ _; omega
      have HOWNR := hide hownr
      clear hcell HT HST hp hx hkidr hF hownr
      by_cases hk2 : kx = 3
      case neg =>
        have bk : (kx != 3) = true := bne_iff_ne.2 hk2
        have HE : Hid (T = none) := by
          show _ = _
          rw [HTS.out, show Js.cPoly xv o = none from Js.cList_not Js.cRing (by rw [← hkx]; exact hk2) o]
          rfl
        have HSD2 : Hid (SD (wo.setCell ⟨sb, 1, none⟩ (.bool true)) sb [] true o) := HI.out.sd.bad true
        have HO2 : Hid ((wo.setCell ⟨sb, 1, none⟩ (.bool true)).ownsRow w1.heap.size 79 1 (.slice ua r.length uc) r.length (r.map L2.v)) := own_set (a := ⟨sb, 1, none⟩) HI.out.own (own_row_ne HI.out.own HI.out.sd (by decide)) _
        have HNW : Hid (((wo.setCell ⟨sb, 1, none⟩ (.bool true)).alloc (.cells #[.slice none 0 0] 79)).heap[wo.heap.size]? = some (.cells #[.slice none 0 0] 79)) := by
          have := heap_alloc_new (wo.setCell ⟨sb, 1, none⟩ (.bool true)) (.cells #[.slice none 0 0] 79)
          simpa [Hid] using this
        have hsz := hide HI.out.fr.size
        clear hk2 hkx hrp hrowr hxok hxv HTS
        go_wp2
        go_loopw [7, 8] (fun qv jv wr => qv = .slice none 0 0 ∧ jv = .int .i64 0 ∧ wr = wo.setCell ⟨sb, 1, none⟩ (.bool true)) (fun _ _ _ => 0)
        case atStart => exact ⟨rfl, rfl, rfl⟩
        case round =>
          obtain ⟨rfl, rfl, rfl⟩ := hrel
          by_cases h0 : 0 < lnx
          all_goals
            go_wp2_with (at_builtin; refine wpList_app el_multi rfl (.tmp 98) (.tmp 100) rfl w1.heap.size _ _ _ (by rfl) (HO2.out.alloc _) wo.heap.size [.slice none 0 0] (by rfl) rfl HNW.out (by intro u hu; simp at hu; subst hu; rfl) hrb.out (by have := hsz.out; simp at this ⊢; omega) ?_; intro g5 cap5 w5 hown5 hg5 hat5 hlt5; have hq5 := hide (HI.out.step' (by omega) HSD2.out ((Fr.refl (· = sb) _).setCell (p := ⟨sb, 1, none⟩) rfl _) (xr := []) ⟨World.ownsRow_nil _ _ _ _, by simp⟩ (fun e => by simp at e) (by simp) hown5 hg5); clear hat5 hlt5 hown5 hg5)
            go_roundw
            case rel => exact ⟨i + 1, r ++ [⟨.slice none 0 0, []⟩], true, o, _, rfl, by go_num, by omega, by rw [List.length_append, HRI.out]; rfl, hq5, HE.out⟩
            case measure => simp [intOf]; omega
      obtain ⟨m2, rfl⟩ := Js.kd_lst (hkx ▸ hk2)
      subst hk2
      obtain ⟨-, acc2, la2, lc2, qs2, rfl, hql2, hq62, hrow2, hown2, hkids2⟩ := hxok.lst_
      clear y0 y4 hrp hkx hxok
      have y0 := hrow2.cell (i := 0) rfl
      have y4 := hrow2.cell (i := 4) rfl
      have HQL2 := hide hql2
      have HKIDS2 := hide hkids2
      have HOWN2 := hide hown2
      have HC2 : Hid (Js.cPoly (.lst (Js.ofM acc2)) o = Js.mapS (fun x o => Js.cRing x.2 o) acc2 o) := Js.mapV_ofM Js.cRing acc2 o
      obtain ⟨T2, hT2⟩ : ∃ T, T = Js.mapS (fun (x : List Int × Js.V) o => Js.cRing x.2 o) acc2 o := ⟨_, rfl⟩
      rw [← hT2] at HC2
      have HT20 : Hid (T2 = if false = true then none else Js.preS ([] : List Ring) (Js.mapS (fun (x : List Int × Js.V) o => Js.cRing x.2 o) (acc2.drop 0) o)) := by
        show _ = _
        rw [hT2, List.drop_zero]
        cases Js.mapS (fun (x : List Int × Js.V) o => Js.cRing x.2 o) acc2 o <;> rfl
      obtain ⟨wB, hwB⟩ : ∃ W, W = wo.setCell ⟨sb, 1, none⟩ (.bool false) := ⟨_, rfl⟩
      have HFB : Hid (Fr (· = sb) wo wB) := by rw [hwB]; exact (Fr.refl (· = sb) _).setCell (p := ⟨sb, 1, none⟩) rfl _
      have HSB : Hid (SD wB sb [] false o) := by rw [hwB]; exact HI.out.sd.bad false
      have HQ2 : Hid (Q2 wB wB sb (.slice none 0 0) [] [] false o) := Q2.start HSB.out (by simp)
      have HWB := hide hwB
      clear hql2 hkids2 hown2 hrow2 hT2 hwB hxv hrowr
      go_wp2
      rw [← HWB.out]
      go_loopw [7, 8] (fun qv jv wr => ∃ (j : Nat) (r2 : List L1) (bad2 o2 : Bool) (u2 : Value), u2 = qv ∧ jv = .int .i64 j ∧ j ≤ qs2.length ∧ r2.length = j ∧ Hid (Q2 wB wr sb u2 r2 [] bad2 o2) ∧ Hid (T2 = if bad2 = true then none else Js.preS (r2.map L1.r) (Js.mapS (fun (x : List Int × Js.V) o => Js.cRing x.2 o) (acc2.drop j) o2))) (fun _ jv _ => qs2.length - (intOf jv).toNat)
      case atStart => exact ⟨0, [], false, o, _, rfl, rfl, Nat.zero_le _, rfl, HQ2, HT20⟩
      case round =>
        obtain ⟨wi, hw⟩ : ∃ x, x = wr := ⟨_, rfl⟩
        subst hw
        obtain ⟨j, r2, bad2, o2, u2, rfl, rfl, hjl, hrj, HI2, HT2⟩ := hrel
        obtain ⟨va, vn, vc, rfl⟩ : ∃ a n c, u2 = .slice a n c := own_shape HI2.out.own
        obtain rfl : vn = r2.length := by obtain ⟨a, c, e⟩ := own_len HI2.out.own; cases e; rfl
        have HFoi : Hid (Fr (· = sb) wo wi) := HFB.out.trans HI2.out.fr
        have q4i := HFoi.out.cell q4 hne
        have hcii := HFoi.out.cell hci hgne
        have y4i := HFoi.out.cell y4 hpne
        have s1i := HI2.out.sd.c1
        have HRJ := hide hrj
        have HOA : Hid ((wi.alloc (.cells #[.slice va r2.length vc] 79)).ownsRow w1.heap.size 79 1 (.slice ua r.length uc) r.length (r.map L2.v)) := (own_fr HI.out.own HFoi.out fun g hg e => own_row_ne HI.out.own HI.out.sd (by decide) (e ▸ hg)).alloc _
        have hszi := hide (HI.out.fr.trans HFoi.out).size
        clear hrj q4 hci y4 s1 g1
        by_cases hjlt : j < qs2.length
        · cases bad2
          · obtain ⟨pj, hpj⟩ : ∃ p, qs2[j]? = some p := ⟨qs2[j], List.getElem?_eq_getElem _⟩
            have hsz1 := HHF.out.size
            have hkidi : Js.Ok (KT sb w) wi (Js.ofM acc2) qs2 := Js.Ok.of (fun b hb => HFoi.out.block b (by have := hb.1; omega) hb.2) (fun _ h => h) HKIDS2.out
            obtain ⟨⟨xn2, xv2⟩, hx2, hxok2, hxv2⟩ := (Js.Ok.kids hkidi).2 j pj hpj
            obtain ⟨g2, cap2, e, hcell2⟩ := own_cell (own_fr HOWN2.out HFoi.out fun g hg e => own_row_ne HOWN2.out HI.out.sd (by decide) (e ▸ hg)) (by omega)
            cases e
            have hcj : wi.cell? ⟨g2, j, none⟩ = some (.pointer (some ⟨pj, 0, none⟩)) := hcell2 j _ (by simp [hpj, Js.ptr])
            have hsz2 := HFoi.out.size
            have HRC := hide (dRing_any xv2 hxv2 pj sb o2 wi HI2.out.sd (hxok2.kt (by omega)))
            have HST2 := hide (Js.mapS_step (c := fun (x : List Int × Js.V) o => Js.cRing x.2 o) (r := r2.map L1.r) (o := o2) hx2)
            have HTS2 : Hid (T2 = (Js.cRing xv2 o2).bind fun y => Js.preS (r2.map L1.r ++ [y.1]) (Js.mapS (fun (x : List Int × Js.V) o => Js.cRing x.2 o) (acc2.drop (j + 1)) y.2)) := HT2.out.trans HST2.out
            clear hpj hkidi hx2 hxok2 hcell2 HT2 HST2
            go_wp2_with fail
            refine HRC.out.mono ?_
            rintro e w4 ⟨⟨xv, xr⟩, b4, o4, rfl, hx, h4, u4, p4⟩
            obtain ⟨xa, xn', xc, rfl⟩ : ∃ a n c, xv = .slice a n c := own_shape hx
            have HT3 : Hid (T2 = if b4 = true then none else Js.preS ((r2 ++ [(⟨.slice xa xn' xc, xr⟩ : L1)]).map L1.r) (Js.mapS (fun (x : List Int × Js.V) o => Js.cRing x.2 o) (acc2.drop (j + 1)) o4)) := by
              show _ = _
              rw [HTS2.out, p4, List.map_append]
              cases b4 <;> rfl
            have HO2 : Hid (w4.ownsRow wB.heap.size 88 1 (.slice va r2.length vc) r2.length (r2.map L1.v)) := own_fr HI2.out.own u4 fun g hg e => own_row_ne HI2.out.own HI2.out.sd (by decide) (e ▸ hg)
            have HOA2 := hide (HO2.out.alloc (.cells #[.slice xa xn' xc] 88))
            have HX := hide hx
            have HU4 := hide u4
            have H4 := hide h4
            have hrb2 : Hid (r2.length ≤ 1073741824) := by show _ ≤ _; rw [HRJ.out]; omega
            have hr26 : r2.length + 1 ≤ 6000 := by rw [HRJ.out]; omega
            have hsz4 := hide (HI2.out.fr.trans u4).size
            clear p4 hx u4 h4
            go_wp2_with (at_builtin; refine wpList_app el_rings rfl (.tmp 93) (.tmp 95) rfl wB.heap.size _ _ _ (by rfl) HOA2.out w4.heap.size [.slice xa xn' xc] (by rfl) rfl (heap_alloc_new w4 _) (by intro u hu; simp at hu; subst hu; rfl) hrb2.out (by have := hsz4.out; simp at this ⊢; omega) ?_; intro g5 cap5 w5 hown5 hg5 hat5 hlt5; have hq5 := hide (HI2.out.step' (by omega) H4.out HU4.out HX.out (fun _ => by simp; omega) (by simp) hown5 hg5); clear hat5 hlt5 hown5 hg5)
            go_roundw
            case rel => exact ⟨j + 1, r2 ++ [⟨.slice xa xn' xc, xr⟩], b4, o4, _, rfl, by go_num, by omega, by rw [List.length_append, HRJ.out]; rfl, hq5, HT3⟩
            case measure => simp [intOf]; omega
          · have HE : Hid (T = none) := by
              show _ = _
              rw [HTS.out, HC2.out, HT2.out]; rfl
            go_wp2_with (at_builtin; refine wpList_app el_multi rfl (.tmp 98) (.tmp 100) rfl w1.heap.size _ _ _ (by rfl) HOA.out wi.heap.size [.slice va r2.length vc] (by rfl) rfl (heap_alloc_new wi _) (by intro u hu; simp at hu; subst hu; rfl) hrb.out (by have := hszi.out; simp at this ⊢; omega) ?_; intro g5 cap5 w5 hown5 hg5 hat5 hlt5; have hq5 := hide (HI.out.step' (by omega) HI2.out.sd HFoi.out (xr := r2) ⟨own_base HI2.out.own (Nat.zero_le _), HI2.out.sub⟩ (fun _ => by simp; omega) (by simp) hown5 hg5); clear hat5 hlt5 hown5 hg5)
            go_roundw
            case rel => exact ⟨i + 1, r ++ [⟨.slice va r2.length vc, r2⟩], true, o2, _, rfl, by go_num, by omega, by rw [List.length_append, HRI.out]; rfl, hq5, HE.out⟩
            case measure => simp [intOf]; omega
        · have HE : Hid (T = if bad2 = true then none else Js.preS ((r ++ [(⟨.slice va r2.length vc, r2⟩ : L2)]).map L2.pts) (Js.mapS (fun (x : List Int × Js.V) o => Js.cPoly x.2 o) (acc.drop (i + 1)) o2)) := by
            have hja : j = acc2.length := by rw [← HQL2.out]; omega
            have h := HT2.out
            rw [hja, Js.mapS_end] at h
            show _ = _
            rw [HTS.out, HC2.out, h, List.map_append]
            cases bad2 <;> rfl
          go_wp2_with (at_builtin; refine wpList_app el_multi rfl (.tmp 98) (.tmp 100) rfl w1.heap.size _ _ _ (by rfl) HOA.out wi.heap.size [.slice va r2.length vc] (by rfl) rfl (heap_alloc_new wi _) (by intro u hu; simp at hu; subst hu; rfl) hrb.out (by have := hszi.out; simp at this ⊢; omega) ?_; intro g5 cap5 w5 hown5 hg5 hat5 hlt5; have hq5 := hide (HI.out.step' (by omega) HI2.out.sd HFoi.out (xr := r2) ⟨own_base HI2.out.own (Nat.zero_le _), HI2.out.sub⟩ (fun _ => by simp; omega) (by simp) hown5 hg5); clear hat5 hlt5 hown5 hg5)
          go_roundw
          case rel => exact ⟨i + 1, r ++ [(⟨.slice va r2.length vc, r2⟩ : L2)], bad2, o2, _, rfl, by go_num, by omega, by rw [List.length_append, HRI.out]; rfl, hq5, HE⟩
          case measure => simp [intOf]; omega
  · obtain ⟨hb, s, cv, nv, la, ln, lc, hrow⟩ := hv.node hi
    have HE := hide (Js.cList_not Js.cPoly hk wide)
    have hb3 : (Js.kd v != 3) = true := bne_iff_ne.2 hk
    obtain ⟨kv, hkv⟩ : ∃ k, k = Js.kd v := ⟨_, rfl⟩
    rw [← hkv] at hrow hb3
    have r0 := hrow.cell (i := 0) rfl
    have r4 := hrow.cell (i := 4) rfl
    obtain ⟨c0, c1, c2, f0, f1, f2⟩ := hs.facts
    have HS := hide hs
    have hne : b ≠ sb := hb.2
    have hne2 : sb ≠ b := fun e => hne e.symm
    clear hk hkv hrow hv hb hs c0 c2 f0 f2
    go_enter Tryz.func60, Tryz.ntmps60
    go_wp2
    go_loopw [5, 6] (fun lv iv wr => lv = .slice none 0 0 ∧ iv = .int .i64 0 ∧ wr = w.setCell ⟨sb, 1, none⟩ (.bool true)) (fun _ _ _ => 0)
    case atStart => exact ⟨rfl, rfl, rfl⟩
    case round =>
      obtain ⟨rfl, rfl, rfl⟩ := hrel
      by_cases h0 : 0 < ln
      · go_wp2
        go_ret
        exact ⟨nil3, true, wide, rfl, nil3_ok _, HS.out.bad true, (Fr.refl (· = sb) _).setCell (p := ⟨sb, 1, none⟩) rfl _, HE.out⟩
      · go_wp2
        go_ret
        exact ⟨nil3, true, wide, rfl, nil3_ok _, HS.out.bad true, (Fr.refl (· = sb) _).setCell (p := ⟨sb, 1, none⟩) rfl _, HE.out⟩
end Go.Proofs.YtoanonklmmbhgaaGreatDoor

/- THE DOCUMENT's JSON: Object. -/
namespace Go.Proofs.YtoanonklmmbhgaaGreatDoor
set_option linter.all false
open Go.RowKit Go.Deep

theorem Js.Rows.up {K : Nat → Prop} {w w' : World} {nv lv : Value} {ys : List Js.NC} {qs : List Nat} (h : Js.Rows K w nv lv ys qs) (u : Up w w') (hk : ∀ b, K b → b < w.heap.size) : Js.Rows K w' nv lv ys qs := h.of (fun b hb => u.block b (hk b hb)) (fun _ h => h)

set_option maxRecDepth 100000 in
set_option maxHeartbeats 16000000 in
theorem dObject_any (l : List UInt8) (w : World) (hl : l.length ≤ 6000) :
    Calls Tryz.prog 29 #[.string (bs l)] w (ReadPost (Js.err l) (Js.got l) w) := by
  unfold ReadPost
  obtain ⟨E, hE⟩ : ∃ E, E = Js.err l := ⟨_, rfl⟩
  obtain ⟨M, hM⟩ : ∃ M, M = Js.got l := ⟨_, rfl⟩
  rw [← hE, ← hM]
  have HEE := hide hE
  have HMM := hide hM
  clear hE hM
  go_enter Tryz.func29, Tryz.ntmps29
  go_wp2_with fail
  refine (dRead_any 6000 (Nat.le_refl _) l hl hl _).mono ?_
  rintro e w2 ⟨pv, t, rfl, u2, htl, hcase⟩
  have HB := hide (bare_any t)
  rcases hcase with ⟨hnone, rfl⟩ | ⟨v, b, hsome, rfl, hb, hok⟩
  · have hz : E = 3 := HEE.out.trans (Js.err_none (Js.set_none hnone))
    have HU := hide u2
    clear hnone u2 HEE
    subst hz
    go_wp2_with (go_at_call 51; refine (HB.out _).mono ?_; rintro e w1 ⟨rfl, hw⟩; replace hw := hw.symm; subst hw)
    go_ret2
    exact ⟨nil3, rfl, nil3_ok _, by simp, HU.out⟩
  have hiv := Js.rd_val hsome
  obtain ⟨rb, hrb⟩ : ∃ x, x = Tx.bare t := ⟨_, rfl⟩
  unfold Hid at HB
  rw [← hrb] at HB
  replace HB := hide HB
  obtain ⟨-, -, -, -, r4, -⟩ := bs_tells rb
  obtain ⟨-, sx, cvx, nvx, lax, lnx, lcx, hrowv⟩ := hok.node hiv
  have k0 := hrowv.cell (i := 0) rfl
  by_cases hk4 : Js.kd v = 4
  case neg =>
    have hz : E = 3 := HEE.out.trans (Js.err_none (Js.set_other hsome hk4))
    clear HEE
    subst hz
    obtain ⟨kv, hkv⟩ : ∃ k, k = Js.kd v := ⟨_, rfl⟩
    rw [← hkv] at k0 hk4
    have bk : (kv != 4) = true := bne_iff_ne.2 hk4
    have HU := hide u2
    by_cases hrb0 : rb = []
    · subst hrb0
      clear hsome u2 hok hrowv hk4 hkv hrb
      go_wp2_with (go_at_call 51; refine (HB.out _).mono ?_; rintro e w1 ⟨rfl, hw⟩; replace hw := hw.symm; subst hw)
      go_ret2
      exact ⟨nil3, rfl, nil3_ok _, by simp, HU.out⟩
    · have hremp : rb.isEmpty = false := by cases rb <;> simp_all
      clear hsome u2 hok hrowv hk4 hkv hrb
      go_wp2_with (go_at_call 51; refine (HB.out _).mono ?_; rintro e w1 ⟨rfl, hw⟩; replace hw := hw.symm; subst hw)
      go_ret2
      exact ⟨nil3, rfl, nil3_ok _, by simp, HU.out⟩
  obtain ⟨m, rfl⟩ := Js.kd_obj hk4
  obtain ⟨hbK, acc, nv, lv, ys, qs, rfl, hql, hrow, hR, hnm, hkids⟩ := hok.obj_
  have hset := Js.set_obj hsome
  by_cases hrb0 : rb = []
  case neg =>
    have hz : E = 3 := HEE.out.trans (Js.err_rest hset (by rw [← hrb]; exact hrb0))
    clear HEE
    subst hz
    have hremp : rb.isEmpty = false := by cases rb <;> simp_all
    have HU := hide u2
    clear hsome u2 hok hrowv hk4 hrb hset hrow hR hnm hkids
    go_wp2_with (go_at_call 51; refine (HB.out _).mono ?_; rintro e w1 ⟨rfl, hw⟩; replace hw := hw.symm; subst hw)
    go_ret2
    exact ⟨nil3, rfl, nil3_ok _, by simp, HU.out⟩
  subst hrb0
  have HANS := hide (Js.err_ans hset hrb.symm)
  rw [← HEE.out, ← HMM.out] at HANS
  clear HEE HMM
  have HU := hide u2
  have HROW := hide hrow
  have HR := hide hR
  have HNM := hide hnm
  have HKIDS := hide hkids
  have HQL := hide hql
  have c0 := hrow.cell (i := 0) rfl
  have HN1 := hide (fun (w' : World) (u : Up w2 w') => named_any [116, 121, 112, 101] (by simp) b acc nv lv ys qs _ w' (hrow.of_block (u.block _ hrow.lt)) ((hR.up u fun b hb => hb.2).of (fun _ _ => rfl) (fun b hb => by have h1 := hb.2; have h2 := u.size; exact Nat.lt_of_lt_of_le h1 h2)) hnm hql)
  have HN2 := hide (fun (w' : World) (u : Up w2 w') => named_any [99, 111, 111, 114, 100, 105, 110, 97, 116, 101, 115] (by simp) b acc nv lv ys qs _ w' (hrow.of_block (u.block _ hrow.lt)) ((hR.up u fun b hb => hb.2).of (fun _ _ => rfl) (fun b hb => by have h1 := hb.2; have h2 := u.size; exact Nat.lt_of_lt_of_le h1 h2)) hnm hql)
  clear hsome u2 hok hrowv hk4 hrb hset hrow hR hnm hkids hql k0 hiv
  go_wp2_with (go_at_call 51; refine (HB.out _).mono ?_; rintro e w1 ⟨rfl, hw⟩; replace hw := hw.symm; subst hw)
  refine (HN1.out _ (Up.refl _)).mono ?_
  rintro e w3 ⟨tv, rfl, hd3⟩
  obtain ⟨o1, ho1⟩ : ∃ o, o = Js.sel (Js.up [116, 121, 112, 101]) acc qs := ⟨_, rfl⟩
  rw [← ho1] at hd3
  have HO1 : Hid (Js.sel Js.typeN acc qs = o1) := ho1.symm
  obtain ⟨ta, tc, rfl⟩ := own_len hd3.own
  have HD3 := hide hd3
  clear hd3 ho1
  go_wp2_with fail
  refine (HN2.out _ HD3.out.up).mono ?_
  rintro e w4 ⟨cv, rfl, hd4⟩
  obtain ⟨o2, ho2⟩ : ∃ o, o = Js.sel (Js.up [99, 111, 111, 114, 100, 105, 110, 97, 116, 101, 115]) acc qs := ⟨_, rfl⟩
  rw [← ho2] at hd4
  have HO2 : Hid (Js.sel Js.listN acc qs = o2) := ho2.symm
  obtain ⟨ca, cc, rfl⟩ := own_len hd4.own
  have HD4 := hide hd4
  have HU4 : Hid (Up w2 w4) := HD3.out.up.trans hd4.up
  have HUW : Hid (Up w w4) := HU.out.trans HU4.out
  clear hd4 ho2
  by_cases hl1 : o1.length = 1
  case neg =>
    have hz : E = 3 := by rw [HANS.out.1, Js.answer_len1 (by rw [← Js.sel_named Js.typeN acc qs HQL.out, HO1.out]; exact hl1)]; rfl
    subst hz
    have bl : ((o1.length : Int) != 1) = true := bne_iff_ne.2 (by omega)
    clear hl1
    go_wp2
    go_ret2
    exact ⟨nil3, rfl, nil3_ok _, by simp, HUW.out⟩
  by_cases hl2 : o2.length = 1
  case neg =>
    have hz : E = 3 := by rw [HANS.out.1, Js.answer_len2 (by rw [← Js.sel_named Js.listN acc qs HQL.out, HO2.out]; exact hl2)]; rfl
    subst hz
    have bl : ((o2.length : Int) != 1) = true := bne_iff_ne.2 (by omega)
    have bl1 : ((o1.length : Int) != 1) = false := by rw [hl1]; rfl
    clear hl1 hl2
    go_wp2
    go_ret2
    exact ⟨nil3, rfl, nil3_ok _, by simp, HUW.out⟩
  obtain ⟨pt, rfl⟩ : ∃ p, o1 = [p] := List.length_eq_one_iff.1 hl1
  obtain ⟨pc, rfl⟩ : ∃ p, o2 = [p] := List.length_eq_one_iff.1 hl2
  obtain ⟨it, ⟨nt, vt⟩, hat, hqt, hnt, hnt2, hunt⟩ := Js.sel_one Js.typeN acc qs pt HQL.out HO1.out
  obtain ⟨ic, ⟨nc, vc⟩, hac, hqc, hnc, hnc2, hunc⟩ := Js.sel_one Js.listN acc qs pc HQL.out HO2.out
  have hkw4 : Js.Ok (fun b => w.heap.size ≤ b ∧ b < w2.heap.size) w4 (Js.ofM acc) qs := HKIDS.out.up HU4.out fun b hb => hb.2
  obtain ⟨xt, hxt, hokt, hivt⟩ := (Js.Ok.kids hkw4).2 it pt hqt
  obtain ⟨xc, hxc, hokc, hivc⟩ := (Js.Ok.kids hkw4).2 ic pc hqc
  obtain rfl : xt = (nt, vt) := Option.some.inj (hxt.symm.trans hat)
  obtain rfl : xc = (nc, vc) := Option.some.inj (hxc.symm.trans hac)
  obtain ⟨gt, capt, e, hct⟩ := own_cell (own_up HD3.out.own HD4.out.up) (by simp)
  cases e
  obtain ⟨gc, capc, e, hcc⟩ := own_cell HD4.out.own (by simp)
  cases e
  have t0 : w4.cell? ⟨gt, 0, none⟩ = some (.pointer (some ⟨pt, 0, none⟩)) := hct 0 _ rfl
  have t1 : w4.cell? ⟨gc, 0, none⟩ = some (.pointer (some ⟨pc, 0, none⟩)) := hcc 0 _ rfl
  obtain ⟨-, sx2, cvx2, nvx2, lax2, lnx2, lcx2, hrowt⟩ := hokt.node hivt
  have hlen1 : [pt].length = 1 := rfl
  have hlen2 : [pc].length = 1 := rfl
  clear hct hcc hl1 hl2 hxt hxc
  by_cases hk2 : Js.kd vt = 2
  case neg =>
    have hz : E = 3 := by rw [HANS.out.1, Js.answer_bad (Js.good_at hat (by rw [if_pos hnt]; exact Js.isTT_not hk2))]; rfl
    subst hz
    obtain ⟨kt, hkt⟩ : ∃ k, k = Js.kd vt := ⟨_, rfl⟩
    rw [← hkt] at hrowt hk2
    have z0 := hrowt.cell (i := 0) rfl
    have bk : (kt != 2) = true := bne_iff_ne.2 hk2
    clear hk2 hkt hrowt hokt hokc hkw4
    go_wp2
    go_ret2
    exact ⟨nil3, rfl, nil3_ok _, by simp, HUW.out⟩
  obtain ⟨c, rfl⟩ := Js.kd_txt hk2
  obtain ⟨tcv, hrowt2, hnct⟩ := hokt.txt_
  obtain ⟨sa, sn, sc, rfl⟩ : ∃ a n c, tcv = .slice a n c := own_shape hnct.own
  have z0 := hrowt2.cell (i := 0) rfl
  have z2 := hrowt2.cell (i := 2) rfl
  have HSP := hide (spells_any c [77, 117, 108, 116, 105, 80, 111, 108, 121, 103, 111, 110] _ _ w4 hnct.own hnct.len (by simp))
  have HKW4 := hide hkw4
  have HOKC := hide hokc
  have HRT := hide hrowt2
  obtain ⟨-, sx9, cvx9, nvx9, lax9, lnx9, lcx9, hrowc9⟩ := hokc.node hivc
  have HRC := hide hrowc9
  clear hrowc9
  clear hrowt hrowt2 hnct hokt hkw4 hokc hk2
  by_cases hcT : c = Js.typeT
  case neg =>
    have hz : E = 3 := by rw [HANS.out.1, Js.answer_bad (Js.good_at hat (by rw [if_pos hnt]; exact decide_eq_false hcT))]; rfl
    subst hz
    have HD : Hid (decide (c = Js.up [77, 117, 108, 116, 105, 80, 111, 108, 121, 103, 111, 110]) = false) := decide_eq_false hcT
    rw [HD.out] at HSP
    clear hcT
    go_wp2_with fail
    refine HSP.out.mono ?_
    rintro e w5 ⟨rfl, n5, rfl⟩
    go_wp2
    go_ret2
    exact ⟨nil3, rfl, nil3_ok _, by simp, HUW.out.drewN _⟩
  have HD : Hid (decide (c = Js.up [77, 117, 108, 116, 105, 80, 111, 108, 121, 103, 111, 110]) = true) := by rw [hcT]; rfl
  rw [HD.out] at HSP
  go_wp2_with fail
  refine HSP.out.mono ?_
  rintro e w5 ⟨rfl, n5, rfl⟩
  obtain ⟨la, lc, rfl⟩ := own_len HR.out.ownL
  have hrow4 := HROW.out.of_block (HU4.out.block _ HROW.out.lt)
  have b4 := hrow4.cell (i := 4) rfl
  have HSRT := hide (Js.Ok.sorted HKW4.out)
  have HTT : Hid (Js.isTT (.txt c) = true) := decide_eq_true hcT
  have HAT := hide hat
  have HAC := hide hac
  have HQT := hide hqt
  have HQC := hide hqc
  have HNT := hide hnt
  have HNC := hide hnc
  have HNT2 := hide hnt2
  have HNC2 := hide hnc2
  have HUNT := hide hunt
  have HUNC := hide hunc
  obtain ⟨gl, capl, e, hcl⟩ := own_cell (HR.out.up HU4.out fun b hb => hb.2).ownL (by
    rw [HQL.out]
    have := (List.getElem?_eq_some_iff.1 hat).1
    omega)
  cases e
  have HCL := hide hcl
  have hq6 : qs.length ≤ 6000 := HR.out.len
  clear hrow4 hcT hat hac hqt hqc hnt hnc hnt2 hnc2 hunt hunc hcl z0 z2 c0
  go_wp2
  go_loopw [9] (fun iv wr => ∃ i : Nat, i ≤ qs.length ∧ iv = .int .i64 i ∧ Hid (∀ (j : Nat) (x : List Int × Js.V), j < i → acc[j]? = some x → (if x.1 = Js.typeN then Js.isTT x.2 else if x.1 = Js.listN then true else decide (x.2.deep ≤ 16)) = true) ∧ ∃ q, wr = w4.drewN q) (fun iv _ => qs.length - (intOf iv).toNat)
  case atStart => exact ⟨0, Nat.zero_le _, rfl, fun j x hj => by omega, _, rfl⟩
  case round =>
    obtain ⟨i, hi, rfl, HOKS, n, rfl⟩ := hrel
    by_cases hlt : i < qs.length
    · obtain ⟨q, hq⟩ : ∃ p, qs[i]? = some p := ⟨qs[i], List.getElem?_eq_getElem _⟩
      obtain ⟨x, hx, hokx, hivx⟩ := (Js.Ok.kids HKW4.out).2 i q hq
      have ci : w4.cell? ⟨gl, i, none⟩ = some (.pointer (some ⟨q, 0, none⟩)) := HCL.out i _ (by simp [hq, Js.ptr])
      obtain ⟨-, sx3, cvx3, nvx3, lax3, lnx3, lcx3, hrowx⟩ := hokx.node hivx
      obtain ⟨D, hD⟩ : ∃ D, D = x.2.deep := ⟨_, rfl⟩
      rw [← hD] at hrowx
      have x5 := hrowx.cell (i := 5) rfl
      have HQI := hide hq
      have HXI := hide hx
      have HDD := hide hD
      have hnext : ∀ (h : (if x.1 = Js.typeN then Js.isTT x.2 else if x.1 = Js.listN then true else decide (x.2.deep ≤ 16)) = true) (j : Nat) (y : List Int × Js.V), j < i + 1 → acc[j]? = some y → (if y.1 = Js.typeN then Js.isTT y.2 else if y.1 = Js.listN then true else decide (y.2.deep ≤ 16)) = true := by
        intro h j y hj hy
        by_cases hji : j < i
        · exact HOKS.out j y hji hy
        · obtain rfl : j = i := by omega
          obtain rfl : y = x := Option.some.inj (hy.symm.trans HXI.out)
          exact h
      have HNEXT := hide hnext
      have HRX := hide hrowx
      have hsm : ∀ (m : Nat) (a : Addr), (binOp .neq 92 (.pointer (some a)) (.pointer (some a))).run Tryz.prog (w4.drewN m) = .ok (.bool false) (w4.drewN m) := fun m a => neq_same _ a
      clear hq hx hokx hivx hrowx hD hnext
      by_cases hqt : q = pt
      · have HG : Hid ((if x.1 = Js.typeN then Js.isTT x.2 else if x.1 = Js.listN then true else decide (x.2.deep ≤ 16)) = true) := by
          have hii : i = it := by
            by_cases h : i = it
            · exact h
            · exact absurd hqt (Js.sorted_ne HSRT.out HQI.out HQT.out h)
          subst hii
          obtain rfl : x = (nt, Js.V.txt c) := Option.some.inj (HXI.out.symm.trans HAT.out)
          show _ = _
          rw [if_pos HNT.out]
          exact HTT.out
        subst hqt
        go_wp2
        go_quiet (fail)
        go_wp2
        go_roundw
        case rel => exact ⟨i + 1, by omega, by go_num, HNEXT.out HG.out, _, rfl⟩
        case measure => simp [intOf]; omega
      · have hnt1 : ∀ m : Nat, (binOp .neq 92 (.pointer (some ⟨q, 0, none⟩)) (.pointer (some ⟨pt, 0, none⟩))).run Tryz.prog (w4.drewN m) = .ok (.bool true) (w4.drewN m) := fun m => neq_other _ hqt (VRow.drewN HRX.out m) (VRow.drewN HRT.out m)
        by_cases hqc : q = pc
        · have HG : Hid ((if x.1 = Js.typeN then Js.isTT x.2 else if x.1 = Js.listN then true else decide (x.2.deep ≤ 16)) = true) := by
            have hii : i = ic := by
              by_cases h : i = ic
              · exact h
              · exact absurd hqc (Js.sorted_ne HSRT.out HQI.out HQC.out h)
            subst hii
            obtain rfl : x = (nc, vc) := Option.some.inj (HXI.out.symm.trans HAC.out)
            show _ = _
            rw [if_neg (fun h => Js.listN_ne (HNC.out.symm.trans h)), if_pos HNC.out]
          subst hqc
          go_wp2
          go_quiet (fail)
          go_wp2
          go_roundw
          case rel => exact ⟨i + 1, by omega, by go_num, HNEXT.out HG.out, _, rfl⟩
          case measure => simp [intOf]; omega
        · have hnc1 : ∀ m : Nat, (binOp .neq 92 (.pointer (some ⟨q, 0, none⟩)) (.pointer (some ⟨pc, 0, none⟩))).run Tryz.prog (w4.drewN m) = .ok (.bool true) (w4.drewN m) := fun m => neq_other _ hqc (VRow.drewN HRX.out m) (VRow.drewN HRC.out m)
          have HX1 : Hid (x.1 ≠ Js.typeN) := fun h => by
            have h1 := HUNT.out i x HXI.out h
            rw [h1, HQT.out] at HQI
            exact hqt (Option.some.inj HQI.out).symm
          have HX2 : Hid (x.1 ≠ Js.listN) := fun h => by
            have h1 := HUNC.out i x HXI.out h
            rw [h1, HQC.out] at HQI
            exact hqc (Option.some.inj HQI.out).symm
          by_cases h16 : 16 < D
          · have hz : E = 3 := by
              rw [HANS.out.1, Js.answer_bad (Js.good_at HXI.out (by rw [if_neg HX1.out, if_neg HX2.out]; exact decide_eq_false (by rw [← HDD.out]; omega)))]; rfl
            subst hz
            have h16i : (16 : Int) < (D : Int) := by omega
            go_wp2
            go_quiet (fail)
            go_wp2
            go_ret2
            exact ⟨nil3, rfl, nil3_ok _, by simp, (HUW.out.drewN _).drewN _⟩
          · have HG : Hid ((if x.1 = Js.typeN then Js.isTT x.2 else if x.1 = Js.listN then true else decide (x.2.deep ≤ 16)) = true) := by
              show _ = _
              rw [if_neg HX1.out, if_neg HX2.out]
              exact decide_eq_true (by rw [← HDD.out]; omega)
            have h16i : ¬ (16 : Int) < (D : Int) := by omega
            go_wp2
            go_quiet (fail)
            go_wp2
            go_roundw
            case rel => exact ⟨i + 1, by omega, by go_num, HNEXT.out HG.out, _, rfl⟩
            case measure => simp [intOf]; omega
    · have HA : Hid (Js.answer acc = Js.cPolys vc false) := by
        refine Js.answer_good HNT2.out HNC2.out (Js.good_all fun j x hx => HOKS.out j x ?_ hx)
        have := (List.getElem?_eq_some_iff.1 hx).1
        rw [← HQL.out] at this
        omega
      have HSD : Hid (SD ((w4.drewN n).alloc (.cells #[.string ⟨#[]⟩, .bool false, .bool false] 85)) w4.heap.size [] false false) := VRow.new (w4.drewN n) [.string (bs []), .bool false, .bool false] _
      have HUA : Hid (Up w4 ((w4.drewN n).alloc (.cells #[.string ⟨#[]⟩, .bool false, .bool false] 85))) := ((Up.refl w4).drewN n).alloc _
      have t1A := HUA.out.cell t1
      have HPC := hide (dPolys_any vc hivc pc w4.heap.size false _ HSD.out (Js.Ok.of (fun b hb => HUA.out.block b (Nat.lt_of_lt_of_le hb.2 HU4.out.size)) (fun b hb => by
        have h1 := hb.2
        have h2 := HU4.out.size
        have h3 := HUA.out.size
        exact ⟨by omega, by omega⟩) HOKC.out))
      go_wp2_with fail
      refine HPC.out.mono ?_
      rintro e w6 ⟨⟨xv, ps⟩, bd, wd, rfl, hx, h6, u6, p6⟩
      obtain ⟨xa, xn, xc, rfl⟩ : ∃ a n c, xv = .slice a n c := own_shape hx.row
      have HU6 : Hid (Up w w6) := ((Fr.of_up ((HUW.out.drewN n).alloc _)).then u6 (T := (· = w4.heap.size)) (S := fun x => w.heap.size ≤ x) (fun x _ e => by have := HUW.out.size; omega)).up (fun x hx => by omega)
      have HX := hide hx
      have HP6 := hide p6
      have s1 := h6.c1
      have s2 := h6.c2
      clear hx u6 h6 p6
      have hans := HANS.out
      rw [HA.out, HP6.out] at hans
      have HANS2 := hide hans
      clear hans HANS
      cases bd
      · cases wd
        · have hz : E = 0 := HANS2.out.1
          subst hz
          go_wp2
          go_ret2
          exact ⟨⟨.slice xa xn xc, ps⟩, rfl, HX.out, (HANS2.out.2 _ _ rfl).symm, HU6.out⟩
        · have hz : E = 4 := HANS2.out.1
          subst hz
          go_wp2
          go_ret2
          exact ⟨nil3, rfl, nil3_ok _, by simp, HU6.out⟩
      · have hz : E = 3 := HANS2.out.1
        subst hz
        go_wp2
        go_ret2
        exact ⟨nil3, rfl, nil3_ok _, by simp, HU6.out⟩
end Go.Proofs.YtoanonklmmbhgaaGreatDoor

/- THE LAW: decoded, at one format. -/
namespace Go.Proofs.YtoanonklmmbhgaaGreatDoor
set_option linter.all false
open Go.RowKit Go.Deep

set_option maxRecDepth 100000 in
set_option maxHeartbeats 4000000 in
theorem decoded2_any (l : List UInt8) (w : World) (Wb : Nat) (hW : WR w Wb nv nv nv 0) (hb : l.length ≤ 1048576) :
    Calls Tryz.prog 15 #[.pointer (some ⟨Wb, 0, none⟩), .int .i64 2, .string (bs l)] w (DecPost (Js.got l) Wb w) := by
  have e0 := bs_size l
  have HW := hide hW
  have hWw := hide (VRow.lt hW)
  clear hW
  by_cases hlong : 6000 < l.length
  · have HD := hide (dec_long 2 l w (by decide) hlong hb)
    go_enter Tryz.func15, Tryz.ntmps15
    go_wp2_with (go_at_call 19; refine HD.out.mono ?_; rintro e w1 ⟨rfl, u1⟩; replace u1 := hide u1)
    go_ret
    exact ⟨rfl, .inl ⟨VRow.of_block HW.out (u1.out.block _ hWw.out), u1.out⟩⟩
  · have hl : l.length ≤ 6000 := by omega
    have HRP := hide (fun w => read2_any l w hl)
    have HRD := hide (fun w => dObject_any l w hl)
    have HBD := hide ((Js.got_ok hl).bd)
    obtain ⟨E, hE⟩ : ∃ E, E = Js.err l := ⟨_, rfl⟩
    obtain ⟨M, hM⟩ : ∃ M, M = Js.got l := ⟨_, rfl⟩
    rw [← hE, ← hM] at HRP HRD
    rw [← hM] at HBD ⊢
    clear hE hM
    by_cases hE0 : E = 0
    · subst hE0
      by_cases hw0 : Pl.wrong M = 0
      · have HD := hide (dec_ok 2 l w (by decide) hl M HBD.out hw0 HRP.out)
        have HW0 := hide hw0
        clear HRP hw0
        go_enter Tryz.func15, Tryz.ntmps15
        go_wp2_with fail
        refine HD.out.mono ?_
        rintro e w1 ⟨p, b, d, rfl, hs, hnew, u1⟩
        obtain ⟨rfl, -⟩ := id hs
        replace hs := hide hs
        replace hnew := hide hnew
        replace u1 := hide u1
        go_wp2_with fail
        refine (HRD.out _).mono ?_
        rintro e w2 ⟨⟨xv, ps⟩, rfl, hx, hm, u2⟩
        obtain ⟨xa, xn, xc, rfl⟩ : ∃ a n c, xv = .slice a n c := own_shape hx.row
        replace hm := hide (hm rfl)
        replace hx := hide hx
        replace u2 := hide u2
        go_wp2_with fail
        refine (wrong_any _ M _ (hm.out ▸ hx.out.rd) HBD.out).mono ?_
        rintro e w3 ⟨rfl, q, rfl⟩
        rw [HW0.out]
        have HU : Hid (Up w (w2.drewN q)) := ((u1.out.trans u2.out).drewN q)
        have HW3 : Hid (WR (w2.drewN q) Wb nv nv nv 0) := VRow.of_block HW.out (HU.out.block _ hWw.out)
        have HK := hide (keep_gen (w2.drewN q) Wb nv nv nv 0 [] HW3.out (World.ownsRow_nil _ _ _ _) (by simp) b xa xn xc)
        go_wp2_with fail
        refine HK.out.mono ?_
        rintro e w4 ⟨rfl, psv, hwr, hown, hfr, -⟩
        replace hwr := hide hwr
        replace hown := hide hown
        replace hfr := hide hfr
        go_wp2
        go_ret
        refine ⟨rfl, .inr ⟨psv, b, d, ⟨.slice xa xn xc, ps⟩, ?_⟩⟩
        have hfr' : Fr (· = Wb) (w2.drewN q) w4 := hfr.out.mono fun x _ e => by
          rcases e with e | e
          · exact e
          · cases e
        have hne : ∀ x ∈ b :: d.bl, x ≠ Wb := fun x hx e => by
          have h1 := hnew.out x hx
          have h2 := hWw.out
          omega
        have u12 : Up w1 (w2.drewN q) := u2.out.drewN q
        refine ⟨⟨hwr.out, hown.out, (hs.out.up' u12).fr hfr' hne, ?_, hm.out, HW0.out, hne, HBD.out⟩, (Fr.of_up HU.out).trans hfr'⟩
        exact (hx.out.up ((Up.refl w2).drewN q)).fr hfr' fun b hb e => (hx.out.up ((Up.refl w2).drewN q)).row_ne HW3.out (by decide) (by decide) (by decide) (e ▸ hb)
      · have HD := hide (dec_form 2 l w (by decide) hl M HBD.out hw0 HRP.out)
        have HW0 : (Pl.wrong M != 0) = true := bne_iff_ne.2 hw0
        obtain ⟨wm, hwm⟩ : ∃ x, x = Pl.wrong M := ⟨_, rfl⟩
        rw [← hwm] at HD HW0
        have HWM := hide hwm
        clear HRP hw0 hwm
        go_enter Tryz.func15, Tryz.ntmps15
        go_wp2_with fail
        refine HD.out.mono ?_
        rintro e w1 ⟨rfl, u1⟩
        replace u1 := hide u1
        go_wp2_with fail
        refine (HRD.out _).mono ?_
        rintro e w2 ⟨⟨xv, ps⟩, rfl, hx, hm, u2⟩
        obtain ⟨xa, xn, xc, rfl⟩ : ∃ a n c, xv = .slice a n c := own_shape hx.row
        replace hm := hide (hm rfl)
        replace hx := hide hx
        replace u2 := hide u2
        go_wp2_with fail
        refine (wrong_any _ M _ (hm.out ▸ hx.out.rd) HBD.out).mono ?_
        rintro e w3 ⟨rfl, q, rfl⟩
        rw [← HWM.out]
        have HU : Hid (Up w (w2.drewN q)) := ((u1.out.trans u2.out).drewN q)
        go_wp2
        go_ret
        exact ⟨rfl, .inl ⟨VRow.of_block HW.out (HU.out.block _ hWw.out), HU.out⟩⟩
    · have HD := hide (dec_bad 2 l w (by decide) hl E M hE0 HRP.out)
      have hE1 : (E == 0) = false := beq_eq_false_iff_ne.2 hE0
      have hE2 : (E != 0) = true := bne_iff_ne.2 hE0
      clear HRP hE0
      go_enter Tryz.func15, Tryz.ntmps15
      go_wp2_with fail
      refine HD.out.mono ?_
      rintro e w1 ⟨rfl, u1⟩
      replace u1 := hide u1
      go_wp2_with fail
      refine (HRD.out _).mono ?_
      rintro e w2 ⟨⟨xv, ps⟩, rfl, hx, hm, u2⟩
      obtain ⟨xa, xn, xc, rfl⟩ : ∃ a n c, xv = .slice a n c := own_shape hx.row
      have HU : Hid (Up w w2) := u1.out.trans u2
      clear hx hm u2
      go_wp2
      go_ret
      exact ⟨rfl, .inl ⟨VRow.of_block HW.out (HU.out.block _ hWw.out), HU.out⟩⟩
end Go.Proofs.YtoanonklmmbhgaaGreatDoor

/- THE DOCUMENT's NUMBERS, WRITTEN: their digits. -/
namespace Go.Proofs.YtoanonklmmbhgaaGreatDoor
set_option linter.all false
open Go.RowKit Go.Deep

namespace Dc
/-- The digits, four at the least. -/
def dl : Nat → Nat → Nat → List UInt8 → List UInt8
  | 0, _, _, s => s
  | f + 1, i, n, s => if i < 4 ∨ 0 < n then dl f (i + 1) (n / 10) (UInt8.ofNat (48 + n % 10) :: s) else s
def digs (k : Nat) : List UInt8 := dl 30 0 (k * 625) []
def whole (s : List UInt8) : List UInt8 := if s.take (s.length - 4) = [] then [48] else s.take (s.length - 4)
def part (s : List UInt8) : List UInt8 := if Tx.trR (s.drop (s.length - 4)) = [] then [] else 46 :: Tx.trR (s.drop (s.length - 4))
def txt (x : Int) : List UInt8 := (if x < 0 then [45] else []) ++ (whole (digs x.natAbs) ++ part (digs x.natAbs))
theorem dl_step {f i n : Nat} {s : List UInt8} (h : i < 4 ∨ 0 < n) : dl (f + 1) i n s = dl f (i + 1) (n / 10) (UInt8.ofNat (48 + n % 10) :: s) := by rw [dl, if_pos h]
theorem dl_end {f i n : Nat} {s : List UInt8} (h : ¬ (i < 4 ∨ 0 < n)) : dl (f + 1) i n s = s := by rw [dl, if_neg h]
/-- (A bound that no simp looks into.) -/
def Bd (i n : Nat) : Prop := n < 10 ^ (12 - i)
theorem Bd.step {i n : Nat} (h : Bd i n) (hi : i < 12) : Bd (i + 1) (n / 10) := by
  unfold Bd at *
  rw [show 12 - i = 12 - (i + 1) + 1 by omega, Nat.pow_succ] at h
  omega
theorem Bd.last {n : Nat} (h : Bd 12 n) : n = 0 := by unfold Bd at h; simp at h; exact h
end Dc

namespace Dc
/-- The digits of n ahead of s (none for nought). -/
def dn (n : Nat) : List UInt8 := if n = 0 then [] else Lib.decDigits n
theorem dn_step {n : Nat} (h : 0 < n) : dn n = dn (n / 10) ++ [UInt8.ofNat (48 + n % 10)] := by
  unfold dn
  rw [if_neg (by omega)]
  by_cases hs : n < 10
  · rw [Lib.decDigits, dif_pos hs, if_pos (by omega), Nat.mod_eq_of_lt hs]; rfl
  · rw [Lib.decDigits, dif_neg hs, if_neg (by omega)]
theorem dl_high : ∀ (f i n : Nat) (s : List UInt8), 4 ≤ i → n < 10 ^ f → dl (f + 1) i n s = dn n ++ s
  | f, i, n, s, hi, hn => by
    by_cases h0 : n = 0
    · subst h0
      rw [dl_end (by omega)]; rfl
    · rw [dl_step (.inr (by omega)), dn_step (by omega)]
      cases f with
      | zero => simp at hn; omega
      | succ f =>
        rw [dl_high f (i + 1) (n / 10) _ (by omega) (by rw [Nat.pow_succ] at hn; omega)]
        simp
theorem digs_eq (K : Nat) (hK : K ≤ 32768) : digs K = dn (K * 625 / 10000) ++ [UInt8.ofNat (48 + K * 625 / 1000 % 10), UInt8.ofNat (48 + K * 625 / 100 % 10), UInt8.ofNat (48 + K * 625 / 10 % 10), UInt8.ofNat (48 + K * 625 % 10)] := by
  unfold digs
  rw [dl_step (.inl (by omega)), dl_step (.inl (by omega)), dl_step (.inl (by omega)), dl_step (.inl (by omega))]
  rw [dl_high 25 _ _ _ (by omega) (by simp only [Nat.div_div_eq_div_mul]; omega)]
  simp only [Nat.div_div_eq_div_mul]
theorem txt_eq (x : Int) (h1 : -32768 ≤ x) (h2 : x ≤ 32768) : txt x = Tx.txt x := by
  unfold txt Tx.txt
  obtain ⟨K, hK⟩ : ∃ K, K = x.natAbs := ⟨_, rfl⟩
  rw [← hK, digs_eq K (by omega), List.append_assoc]
  congr 1
  have a1 : K * 625 / 10000 = K / 16 := by omega
  have b2 : K * 625 / 1000 = K % 16 * 625 / 1000 + 10 * (K / 16) := by omega
  have b3 : K * 625 / 100 = K % 16 * 625 / 100 + 10 * (10 * (K / 16)) := by omega
  have b4 : K * 625 / 10 = K % 16 * 625 / 10 + 10 * (100 * (K / 16)) := by omega
  have a2 : K * 625 / 1000 % 10 = K % 16 * 625 / 1000 % 10 := by rw [b2, Nat.add_mul_mod_self_left]
  have a3 : K * 625 / 100 % 10 = K % 16 * 625 / 100 % 10 := by rw [b3, Nat.add_mul_mod_self_left]
  have a4 : K * 625 / 10 % 10 = K % 16 * 625 / 10 % 10 := by rw [b4, Nat.add_mul_mod_self_left]
  clear b2 b3 b4
  have a5 : K * 625 % 10 = K % 16 * 625 % 10 := by omega
  rw [a1, a2, a3, a4, a5]
  have hu : K % 16 < 16 := Nat.mod_lt _ (by omega)
  generalize K % 16 = u at *
  generalize K / 16 = v at *
  congr 1
  · unfold whole
    simp only [List.length_append, List.length_cons, List.length_nil, Nat.add_sub_cancel, List.take_left']
    unfold dn
    by_cases hv : v = 0
    · subst hv
      simp [Lib.decDigits]
    · rw [if_neg hv]
      have : Lib.decDigits v ≠ [] := by
        intro e
        rw [Lib.decDigits] at e
        split at e <;> simp at e
      simp [this]
  · unfold part
    simp only [List.length_append, List.length_cons, List.length_nil, Nat.add_sub_cancel, List.drop_left']
    clear a1 a2 a3 a4 a5 hK h1 h2
    revert u
    decide
end Dc
end Go.Proofs.YtoanonklmmbhgaaGreatDoor
