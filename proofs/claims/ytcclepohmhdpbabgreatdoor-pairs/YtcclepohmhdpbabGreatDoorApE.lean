/- THE WALKS: package apart: ringsOf, edgesOf. -/
import Derived.Test.YtcclepohmhdpbabGreatDoorAppN
import Derived.Test.YtcclepohmhdpbabGreatDoorClB
import Derived.Test.YtcclepohmhdpbabGreatDoorCnP
namespace Go.Proofs.YtcclepohmhdpbabGreatDoor
set_option linter.all false
open Go.RowKit Go.Deep

/-- What is appended: nothing, or these cells. -/
def SrcR (w : World) (size : Nat) (x : Value) (m : Nat) (news : List Value) : Prop :=
  news.length = m * size ∧ ∃ ao c, x = .slice ao m c ∧ (0 < m → ∃ b, ao = some ⟨b, 0, none⟩ ∧ ∀ j u, news[j]? = some u → w.cell? ⟨b, j, none⟩ = some u)
theorem SrcR.up {w w' : World} {size : Nat} {x : Value} {m : Nat} {news : List Value} (h : SrcR w size x m news) (k : Up w w') : SrcR w' size x m news := by
  obtain ⟨hl, ao, c, e, h⟩ := h
  exact ⟨hl, ao, c, e, fun hm => by obtain ⟨b, e1, e2⟩ := h hm; exact ⟨b, e1, fun j u hu => k.cell (e2 j u hu)⟩⟩
theorem own_src {w : World} {base : Nat} {e : TypeId} {size : Nat} {v : Value} {n : Nat} {xs : List Value} (h : w.ownsRow base e size v n xs) (hl : xs.length = n * size) : SrcR w size v n xs := by
  obtain ⟨ao, cap, rfl⟩ := own_len h
  refine ⟨hl, ao, cap, rfl, fun hn => ?_⟩
  obtain ⟨g, cap', e', hc⟩ := own_cell h hn
  cases e'
  exact ⟨g, rfl, hc⟩
theorem own_le {w : World} {base : Nat} {e : TypeId} {size n : Nat} {ao : Option Addr} {cap : Nat} {xs : List Value} (h : w.ownsRow base e size (.slice ao n cap) n xs) : n ≤ cap := by
  rcases h.2 with ⟨h', h0⟩ | ⟨g', cap', cur, h', hb, hg, hnc, _⟩
  · cases h'; omega
  · cases h'; exact hnc
/-- A whole list appended: one way on. -/
theorem wpList_appR {P : Program} {t e : TypeId} {z : Value} {size bytes : Nat} (E0 : Elem P t e z size bytes) {ops : Array Oper} {rest : List Oper} {o : Oper} {a : Act} {w : World} {Q : Exit → Act → World → Prop} (hgd : o.guard = none) (s x : Operand)
    (ho : o.op = .call { callee := .builtin .append, args := #[s, x], argTypes := #[t, t] }) (base : Nat) (v : Value) (n : Nat) (xs : List Value) (hs : a.eval s = v) (hown : w.ownsRow base e size v n xs)
    (xv : Value) (m : Nat) (news : List Value) (hx : a.eval x = xv) (hsrc : SrcR w size xv m news) (h1 : ∀ u ∈ news, u.oneCell' = true)
    (hn : n + m ≤ 1073741824) (hbase : base ≤ w.heap.size)
    (h : ∀ v' w', w'.ownsRow base e size v' (n + m) (xs ++ news) → w.grownBy w' v.ownBlock → wpList P ops Q rest (a.put o.dst v') w') :
    wpList P ops Q (o :: rest) a w := by
  obtain ⟨hl, ao, c, rfl, hc⟩ := hsrc
  by_cases hm : 0 < m
  · obtain ⟨b, rfl, hc2⟩ := hc hm
    exact wpList_appN E0 hgd s x ho base v n xs hs hown ⟨b, 0, none⟩ m c news hx hl (fun j u hu => by rw [addr_add2, Nat.zero_add]; exact hc2 j u hu) h1 hm hn hbase fun g cap w' h1 h2 _ _ => h _ w' h1 h2
  · have hm0 : m = 0 := by omega
    subst hm0
    have hn0 : news = [] := by cases news with | nil => rfl | cons _ _ => simp at hl
    subst hn0
    obtain ⟨ao', cap', rfl⟩ := own_len hown
    obtain ⟨i, hi, hzz⟩ := Option.map_eq_some_iff.1 E0.info
    refine wpList_plain hgd fun K hK => ?_
    have hsr : Src P i.size t (.slice ao 0 c) 0 [] w := by
      cases ao with
      | none => exact Src.ofNil w E0.und c
      | some ad => exact Src.ofSlice w E0.und ad 0 c [] (by simp) (by simp) (by simp)
    have hrun := run_append_nothing (P := P) w t t o.type e i E0.und hi ao' n cap' (own_le hown) _ hsr
    unfold Oper.wp
    simp [execOp, ho, resolve, invoke, builtin, hs, hx, hrun, Result.andThen]
    exact hK _ _ (h _ w (by simpa using hown) (World.grownBy.refl _ _))

/-- Values, each of which reads as its ring. -/
structure RLs (w : World) (us : List Value) (l : Poly) : Prop where
  len : us.length = l.length
  rd : ∀ (i : Nat) (u : Value) (r : Ring), us[i]? = some u → l[i]? = some r → Rd1 w u r
theorem RLs.nil (w : World) : RLs w [] [] := ⟨rfl, fun i u r h => by simp at h⟩
theorem RLs.up {w w' : World} {us : List Value} {l : Poly} (h : RLs w us l) (k : Up w w') : RLs w' us l := ⟨h.len, fun i u r h1 h2 => (h.rd i u r h1 h2).up k⟩
theorem RLs.app {w : World} {us vs : List Value} {l k : Poly} (h : RLs w us l) (h2 : RLs w vs k) : RLs w (us ++ vs) (l ++ k) := by
  refine ⟨by simp [h.len, h2.len], fun i u r e1 e2 => ?_⟩
  by_cases hi : i < us.length
  · rw [List.getElem?_append_left hi] at e1
    rw [List.getElem?_append_left (by rw [← h.len]; exact hi)] at e2
    exact h.rd i u r e1 e2
  · rw [List.getElem?_append_right (by omega)] at e1
    rw [List.getElem?_append_right (by rw [← h.len]; omega), ← h.len] at e2
    exact h2.rd _ u r e1 e2
theorem RLs.one {w : World} {us : List Value} {l : Poly} (h : RLs w us l) : ∀ u ∈ us, u.oneCell' = true := fun u hu => by
  obtain ⟨i, hi⟩ := List.mem_iff_getElem?.1 hu
  obtain ⟨r, hr⟩ := Pl.some_of_lt (show i < l.length by rw [← h.len]; exact Pl.lt_of_some hi)
  obtain ⟨ao, cap, rfl, -⟩ := h.rd i u r hi hr
  rfl
theorem RLs.rd2 {w : World} {base : Nat} {e : TypeId} {v : Value} {us : List Value} {l : Poly} (h : RLs w us l) (ho : w.ownsRow base e 1 v us.length us) : Rd2 w v l := by
  obtain ⟨ao, cap, rfl⟩ := own_len ho
  refine ⟨ao, cap, by rw [h.len], fun i r hr => ?_⟩
  obtain ⟨u, hu⟩ := Pl.some_of_lt (show i < us.length by rw [h.len]; exact Pl.lt_of_some hr)
  obtain ⟨g, cap', e', hc⟩ := own_cell ho (by have := Pl.lt_of_some hu; omega)
  cases e'
  exact ⟨g, u, rfl, hc _ _ hu, h.rd i u r hu hr⟩
theorem Rd2.vals {w : World} {v : Value} {l : Poly} (h : Rd2 w v l) : ∃ us, SrcR w 1 v us.length us ∧ RLs w us l := by
  obtain ⟨ao, cap, rfl, h⟩ := h
  cases hl : l with
  | nil => exact ⟨[], ⟨rfl, ao, cap, rfl, fun h => by simp at h⟩, RLs.nil w⟩
  | cons r0 t =>
    rw [← hl]
    obtain ⟨b, u0, rfl, -, -⟩ := h 0 r0 (by rw [hl]; rfl)
    refine ⟨(List.range l.length).map fun i => (w.cell? ⟨b, i, none⟩).getD (.bool false), ⟨by simp, some ⟨b, 0, none⟩, cap, by simp, fun _ => ⟨b, rfl, fun j u hu => ?_⟩⟩, by simp, fun i u r hu hr => ?_⟩
    · have hj : j < l.length := by have := Pl.lt_of_some hu; simpa using this
      obtain ⟨r, hr⟩ := Pl.some_of_lt hj
      obtain ⟨b', u', e', hc, -⟩ := h j r hr
      cases e'
      simp [hj, hc] at hu
      rw [hc, hu]
    · have hj : i < l.length := Pl.lt_of_some hr
      obtain ⟨b', u', e', hc, hd⟩ := h i r hr
      cases e'
      simp [hj, hc] at hu
      rw [← hu]; exact hd
theorem Rd2.len {w : World} {v : Value} {l : Poly} (h : Rd2 w v l) : ∃ ao cap, v = .slice ao l.length cap := by obtain ⟨ao, cap, e, -⟩ := h; exact ⟨ao, cap, e⟩

theorem flatten_take_succ {α : Type} {m : List (List α)} {k : Nat} {l : List α} (h : m[k]? = some l) : (m.take (k + 1)).flatten = (m.take k).flatten ++ l := by rw [Pl.take_one h]; simp
theorem flatten_take_len {α : Type} (m : List (List α)) (k : Nat) : (m.take k).flatten.length ≤ m.flatten.length := by
  have : m.flatten = (m.take k).flatten ++ (m.drop k).flatten := by rw [← List.flatten_append, List.take_append_drop]
  rw [this, List.length_append]; omega

set_option maxRecDepth 8000 in
set_option maxHeartbeats 4000000 in
theorem ringsOf_any (v : Value) (m : Mult) (w : World) (hv : Rd3 w v m) (hm : m.length ≤ 1048576) (hf : m.flatten.length ≤ 1048576) :
    Calls Tryz.prog 68 #[v] w fun e w' => ∃ u us, e = .returned u ∧ Up w w' ∧ w'.ownsRow w.heap.size 46 1 u us.length us ∧ RLs w us m.flatten := by
  obtain ⟨ao, cap, rfl, hv⟩ := hv
  have HV := hide hv
  have HF := hide (fun k => flatten_take_len m k)
  clear hv
  go_enter Tryz.func68, Tryz.ntmps68
  go_wp2
  go_loopw [3, 8] (fun sv i wr => ∃ (k : Nat) (u : Value) (us : List Value), i = .int .i64 k ∧ u = sv ∧ k ≤ m.length ∧ Hid (Up w wr) ∧ Hid (wr.ownsRow w.heap.size 46 1 u us.length us) ∧ Hid (RLs w us (m.take k).flatten)) (fun _ i _ => m.length - (intOf i).toNat)
  case atStart => exact ⟨0, _, [], rfl, rfl, Nat.zero_le _, Up.refl _, World.ownsRow_nil _ _ _ _, RLs.nil _⟩
  case round =>
    obtain ⟨k, u, us, rfl, rfl, hk, HU, HO, HR⟩ := hrel
    by_cases hlt : k < m.length
    · obtain ⟨l, hl⟩ := Pl.some_of_lt hlt
      obtain ⟨b, x, rfl, cx, hx⟩ := HV.out k l hl
      obtain ⟨vs, hs, hR2⟩ := hx.vals
      have HS := hide (hs.up HU.out)
      have HR2 := hide hR2
      have HFl := hide (flatten_take_succ hl)
      have cx2 := HU.out.cell cx
      have HO1 := hide HR2.out.one
      have hb : Hid (us.length + vs.length ≤ 1073741824) := by
        have h1 := HF.out (k + 1)
        rw [HFl.out, List.length_append, ← HR.out.len, ← HR2.out.len] at h1
        show _ ≤ _; omega
      have hsz := hide HU.out.size
      have i1 : (0 : Int) ≤ (k : Int) := by omega
      have i2 : (k : Int) < (m.length : Int) := by omega
      clear hl cx hx hs hR2
      go_wp2_with (at_builtin; refine wpList_appR el_rings rfl (.tmp 12) (.tmp 13) rfl w.heap.size u _ _ (by rfl) HO.out x _ vs (by rfl) HS.out HO1.out hb.out hsz.out ?_; intro v5 w5 hown5 hg5; have HO5 := hide hown5; have HU5 : Hid (Up w w5) := Fr.up (S := fun _ => False) ((Fr.of_up HU.out).grown hg5 fun x hx => .inr (own_lt HO.out hx).1) (fun _ _ h => h); clear hown5 hg5)
      go_roundw
      case rel =>
        refine ⟨k + 1, _, us ++ vs, by go_num, rfl, by omega, HU5, by rw [List.length_append]; exact HO5, ?_⟩
        rw [HFl.out]
        exact HR.out.app HR2.out
      case measure => simp [intOf]; omega
    · have hk2 : k = m.length := by omega
      subst hk2
      go_wp2
      go_ret
      exact ⟨_, us, rfl, HU.out, HO.out, by have := HR.out; rwa [List.take_length] at this⟩

theorem edges_len (l : Poly) : (Vd.edges l).length ≤ l.flatten.length := by
  unfold Vd.edges
  induction l with
  | nil => simp
  | cons r t ih => simp only [List.flatMap_cons, List.length_append, List.flatten_cons, Vd.segs_len]; omega
theorem edges_take_succ {l : Poly} {k : Nat} {r : Ring} (h : l[k]? = some r) : Vd.edges (l.take (k + 1)) = Vd.edges (l.take k) ++ Vd.segs r := by unfold Vd.edges; rw [Pl.take_one h]; simp
theorem flatG_len4 (l : List Vd.Seg) : (flatG segC l).length = l.length * 4 := by
  unfold flatG
  induction l with
  | nil => rfl
  | cons s t ih => simp only [List.flatMap_cons, List.length_append, ih, List.length_cons, segC, List.length_nil]; omega
theorem segC_one (l : List Vd.Seg) : ∀ u ∈ flatG segC l, u.oneCell' = true := fun u hu => by
  unfold flatG at hu
  obtain ⟨s, -, hs⟩ := List.mem_flatMap.1 hu
  simp [segC] at hs
  rcases hs with rfl | rfl | rfl | rfl <;> rfl

set_option maxRecDepth 8000 in
set_option maxHeartbeats 4000000 in
theorem edgesOf_any (v : Value) (l : Poly) (w : World) (hv : Rd2 w v l) (hl : l.length ≤ 1048576) (hf : l.flatten.length ≤ 1048576) (hr : ∀ r ∈ l, r.length ≤ 1048576) :
    Calls Tryz.prog 69 #[v] w fun e w' => ∃ u, e = .returned u ∧ Up w w' ∧ w'.ownsRow w.heap.size 98 4 u (Vd.edges l).length (flatG segC (Vd.edges l)) := by
  obtain ⟨ao, cap, rfl, hv⟩ := hv
  have HV := hide hv
  have HR := hide hr
  have HF := hide (fun k => Nat.le_trans (edges_len (l.take k)) (flatten_take_len l k))
  clear hv hr
  go_enter Tryz.func69, Tryz.ntmps69
  go_wp2
  go_loopw [3, 8] (fun sv i wr => ∃ (k : Nat) (u : Value), i = .int .i64 k ∧ u = sv ∧ k ≤ l.length ∧ Hid (Up w wr) ∧ Hid (wr.ownsRow w.heap.size 98 4 u (Vd.edges (l.take k)).length (flatG segC (Vd.edges (l.take k))))) (fun _ i _ => l.length - (intOf i).toNat)
  case atStart => exact ⟨0, _, rfl, rfl, Nat.zero_le _, Up.refl _, World.ownsRow_nil _ _ _ _⟩
  case round =>
    obtain ⟨k, u, rfl, rfl, hk, HU, HO⟩ := hrel
    by_cases hlt : k < l.length
    · obtain ⟨r, hr⟩ := Pl.some_of_lt hlt
      obtain ⟨b, x, rfl, cx, hx⟩ := HV.out k r hr
      have HFl := hide (edges_take_succ hr)
      have HK := hide (segments_any x r wr (hx.up HU.out) (HR.out r (Pl.mem_of_some hr)))
      have cx2 := HU.out.cell cx
      have hb : Hid ((Vd.edges (l.take k)).length + (Vd.segs r).length ≤ 1073741824) := by
        have h1 := HF.out (k + 1)
        rw [HFl.out, List.length_append] at h1
        show _ ≤ _; omega
      have i1 : (0 : Int) ≤ (k : Int) := by omega
      have i2 : (k : Int) < (l.length : Int) := by omega
      clear hr cx hx
      go_wp2_with fail
      refine HK.out.mono ?_
      rintro e w4 ⟨y, rfl, hz, hown⟩
      have HU4 := hide (HU.out.trans hz)
      have HO4 := hide (own_up HO.out hz)
      have HS := hide (own_src hown (flatG_len4 _))
      have H1 := hide (segC_one (Vd.segs r))
      have hsz := hide HU4.out.size
      clear hz hown cx2 HK
      go_wp2_with (at_builtin; refine wpList_appR el_segs rfl (.tmp 12) (.tmp 14) rfl w.heap.size u _ _ (by rfl) HO4.out y _ _ (by rfl) HS.out H1.out hb.out hsz.out ?_; intro v5 w5 hown5 hg5; have HO5 := hide hown5; have HU5 : Hid (Up w w5) := Fr.up (S := fun _ => False) ((Fr.of_up HU4.out).grown hg5 fun x hx => .inr (own_lt HO4.out hx).1) (fun _ _ h => h); clear hown5 hg5)
      go_roundw
      case rel =>
        refine ⟨k + 1, _, by go_num, rfl, by omega, HU5, ?_⟩
        rw [HFl.out, List.length_append, flatG_append]
        exact HO5
      case measure => simp [intOf]; omega
    · have hk2 : k = l.length := by omega
      subst hk2
      go_wp2
      go_ret
      exact ⟨_, rfl, HU.out, by have := HO.out; rwa [List.take_length] at this⟩
end Go.Proofs.YtcclepohmhdpbabGreatDoor
