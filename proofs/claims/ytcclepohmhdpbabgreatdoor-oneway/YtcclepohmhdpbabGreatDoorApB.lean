import Derived.Test.YtcclepohmhdpbabGreatDoorPnD
import Derived.Test.YtcclepohmhdpbabGreatDoorWalkP
import Derived.Test.YtcclepohmhdpbabGreatDoorAppN
import Derived.Test.YtcclepohmhdpbabGreatDoorVdI
namespace Go.Proofs.YtcclepohmhdpbabGreatDoor
set_option linter.all false
open Go.RowKit Go.Deep
theorem wrap_id {x : Int} (h1 : -9223372036854775808 ≤ x) (h2 : x ≤ 9223372036854775807) : IntKind.i64.wrap x = x := by
 simp [IntKind.wrap, IntKind.bits, IntKind.signed]; omega
def flatG {α : Type} (f : α → List Value) (l : List α) : List Value := l.flatMap f
theorem flatG_append {α : Type} (f : α → List Value) (a b : List α) : flatG f (a ++ b) = flatG f a ++ flatG f b := by simp [flatG]
theorem flatG_at {α : Type} {f : α → List Value} {n : Nat} (hf : ∀ x, (f x).length = n) : ∀ (l : List α) (i : Nat) (x : α) (j : Nat) (u : Value), l[i]? = some x → (f x)[j]? = some u → (flatG f l)[i * n + j]? = some u := by
  intro l
  induction l with
  | nil => intro i x j u h; simp at h
  | cons a t ih =>
    intro i x j u h hu
    have hj : j < n := by rw [← hf x]; exact Pl.lt_of_some hu
    show (f a ++ flatG f t)[i * n + j]? = some u
    cases i with
    | zero => simp at h; subst h; rw [List.getElem?_append_left (by rw [hf]; omega)]; simpa using hu
    | succ i =>
      rw [List.getElem?_append_right (by rw [hf, Nat.succ_mul]; omega), hf, show (i + 1) * n + j - n = i * n + j by rw [Nat.succ_mul]; omega]
      exact ih i x j u (by simpa using h) hu
def RdG {α : Type} (n : Nat) (f : α → List Value) (w : World) (v : Value) (l : List α) : Prop :=
 ∃ ao cap, v = .slice ao l.length cap ∧ ∀ i x, l[i]? = some x → ∃ b, ao = some ⟨b, 0, none⟩ ∧ ∀ j u, (f x)[j]? = some u → w.cell? ⟨b, i * n + j, none⟩ = some u
theorem RdG.up {α : Type} {n : Nat} {f : α → List Value} {w w' : World} {v : Value} {l : List α} (h : RdG n f w v l) (k : Up w w') : RdG n f w' v l := by
 obtain ⟨ao, cap, e, h⟩ := h
 exact ⟨ao, cap, e, fun i x hx => by obtain ⟨b, e1, e2⟩ := h i x hx; exact ⟨b, e1, fun j u hu => k.cell (e2 j u hu)⟩⟩
theorem own_rdG {α : Type} {n : Nat} {f : α → List Value} (hf : ∀ x, (f x).length = n) {w : World} {base : Nat} {e : TypeId} {v : Value} {l : List α} (h : w.ownsRow base e n v l.length (flatG f l)) : RdG n f w v l := by
 obtain ⟨ao, cap, ev⟩ := own_len h
 refine ⟨ao, cap, ev, fun i x hx => ?_⟩
 obtain ⟨g, cap', e', hc⟩ := own_cell h (by have := Pl.lt_of_some hx; omega)
 rw [ev] at e'
 cases e'
 exact ⟨g, rfl, fun j u hu => hc _ _ (flatG_at hf l i x j u hx hu)⟩
def segC (s : Vd.Seg) : List Value := [.int .i64 s.1.1, .int .i64 s.1.2, .int .i64 s.2.1, .int .i64 s.2.2]
def spotC (p : Vd.Spot) : List Value := [.int .i64 p.1.1, .int .i64 p.1.2, .int .i64 p.2]
def intC (n : Nat) : List Value := [.int .i64 n]
abbrev RdSeg := RdG 4 segC
abbrev RdSpot := RdG 3 spotC
theorem RdG.seg {w : World} {v : Value} {l : List Vd.Seg} (h : RdSeg w v l) {i : Nat} {s : Vd.Seg} (hs : l[i]? = some s) : ∃ b cap, v = .slice (some ⟨b, 0, none⟩) l.length cap ∧ w.cell? ⟨b, i * 4, none⟩ = some (.int .i64 s.1.1) ∧ w.cell? ⟨b, i * 4 + 1, none⟩ = some (.int .i64 s.1.2) ∧ w.cell? ⟨b, i * 4 + 2, none⟩ = some (.int .i64 s.2.1) ∧ w.cell? ⟨b, i * 4 + 3, none⟩ = some (.int .i64 s.2.2) := by
 obtain ⟨ao, cap, e, h⟩ := h
 obtain ⟨b, rfl, hc⟩ := h i s hs
 exact ⟨b, cap, e, hc 0 _ rfl, hc 1 _ rfl, hc 2 _ rfl, hc 3 _ rfl⟩
theorem RdG.spot {w : World} {v : Value} {l : List Vd.Spot} (h : RdSpot w v l) {i : Nat} {s : Vd.Spot} (hs : l[i]? = some s) : ∃ b cap, v = .slice (some ⟨b, 0, none⟩) l.length cap ∧ w.cell? ⟨b, i * 3, none⟩ = some (.int .i64 s.1.1) ∧ w.cell? ⟨b, i * 3 + 1, none⟩ = some (.int .i64 s.1.2) ∧ w.cell? ⟨b, i * 3 + 2, none⟩ = some (.int .i64 s.2) := by
 obtain ⟨ao, cap, e, h⟩ := h
 obtain ⟨b, rfl, hc⟩ := h i s hs
 exact ⟨b, cap, e, hc 0 _ rfl, hc 1 _ rfl, hc 2 _ rfl⟩
theorem und_segs : Tryz.prog.underlying 93 = some (.slice 98) := by kernel_rfl
theorem info_seg : (Tryz.prog.info? 98).map (fun i => (i.zero, i.size, i.bytes)) = some (some (.agg #[.int .i64 0, .int .i64 0, .int .i64 0, .int .i64 0]), 4, 32) := by kernel_rfl
theorem el_segs : Elem Tryz.prog 93 98 (.agg #[.int .i64 0, .int .i64 0, .int .i64 0, .int .i64 0]) 4 32 := ⟨und_segs, info_seg, rfl, by omega, by omega⟩
theorem segs_take {r : Ring} {k : Nat} {p q : Pnt} (hp : r[k]? = some p) (hq : r[k + 1]? = some q) : (Vd.segs r).take (k + 1) = (Vd.segs r).take k ++ [(p, q)] := Pl.take_one (Vd.segs_at hp hq)
set_option maxHeartbeats 4000000 in
theorem segments_any (v : Value) (r : Ring) (w : World) (hv : Rd1 w v r) (hr : r.length ≤ 1048576) :
  Calls Tryz.prog 99 #[v] w fun e w' => ∃ u, e = .returned u ∧ Up w w' ∧ w'.ownsRow w.heap.size 98 4 u (Vd.segs r).length (flatG segC (Vd.segs r)) := by
 obtain ⟨ao, cap, rfl, hm⟩ := hv
 have HM := hide hm
 clear hm
 go_enter Tryz.func99, Tryz.ntmps99
 go_wp2
 go_loopw [3, 4] (fun sv i wr => ∃ (k : Nat) (u : Value), i = .int .i64 (k + 1 : Nat) ∧ u = sv ∧ k ≤ (Vd.segs r).length ∧ Hid (Up w wr) ∧ Hid (wr.ownsRow w.heap.size 98 4 u k (flatG segC ((Vd.segs r).take k)))) (fun _ i _ => r.length - (intOf i).toNat)
 case atStart => exact ⟨0, _, rfl, rfl, Nat.zero_le _, Up.refl _, World.ownsRow_nil _ _ _ _⟩
 case round =>
  obtain ⟨k, u, rfl, rfl, hk, HU, HO⟩ := hrel
  by_cases hlt : k + 1 < r.length
  ·obtain ⟨⟨px, py⟩, hp⟩ := Pl.some_of_lt (show k < r.length by omega)
   obtain ⟨⟨qx, qy⟩, hq⟩ := Pl.some_of_lt hlt
   have HT := hide (segs_take hp hq)
   obtain ⟨b, rfl, c0, c1⟩ := HM.out k _ hp
   obtain ⟨b', e', d0, d1⟩ := HM.out (k + 1) _ hq
   cases e'
   have f0 := HU.out.cell c0
   have f1 := HU.out.cell c1
   have g0 := HU.out.cell d0
   have g1 := HU.out.cell d1
   have f0a := fun o => ((Up.refl wr).alloc o).cell f0
   have f1a := fun o => ((Up.refl wr).alloc o).cell f1
   have g0a := fun o => ((Up.refl wr).alloc o).cell g0
   have g1a := fun o => ((Up.refl wr).alloc o).cell g1
   have HOA := hide (fun o => HO.out.alloc o)
   have hb : Hid (k ≤ 1073741824) := by show _ ≤ _; omega
   have hsz := hide HU.out.size
   have i1 : (0 : Int) ≤ (k : Int) := by omega
   have i2 : (k : Int) < (r.length : Int) := by omega
   have i3 : (k : Int) + 1 < (r.length : Int) := by omega
   have i4 : IntKind.i64.wrap (k : Int) = (k : Int) := wrap_id (by omega) (by omega)
   have i5 : (0 : Int) ≤ (k : Int) + 1 := by omega
   clear c0 c1 d0 d1 hp hq
   go_upto_region 5 with fail
   go_region_law ((refine step_app el_segs rfl (.tmp 11) (.tmp 22) rfl w.heap.size u _ _ (by rfl) (HOA.out _) wr.heap.size (segC ((px, py), (qx, qy))) (by rfl) rfl (heap_alloc_new wr _) (by intro x hx; simp [segC] at hx; rcases hx with rfl | rfl | rfl | rfl <;> rfl) hb.out (by simp; have := hsz.out; omega) ?_; intro g cap w1 hown1 hg1 hat1 hlt1))
   all_goals
    have HO2 := hide hown1
    have HU2 : Hid (Up w w1) := Fr.up (S := fun _ => False) (((Fr.of_up HU.out).alloc _).drew.grown hg1 fun x hx => .inr (own_lt HO.out hx).1) (fun _ _ h => h)
    clear hown1 hg1 hat1 hlt1 f0 f1 g0 g1 f0a f1a g0a g1a
    go_wp2
    go_roundw
    case rel => exact ⟨k + 1, _, by go_num, rfl, by rw [Vd.segs_len]; omega, HU2, by rw [HT.out, flatG_append]; exact HO2⟩
    case measure => simp [intOf]; omega
  ·have hk2 : k = (Vd.segs r).length := by rw [Vd.segs_len] at *; omega
   subst hk2
   go_wp2
   go_ret
   exact ⟨_, rfl, HU.out, by have := HO.out; rwa [List.take_length] at this⟩
def SrcR (w : World) (size : Nat) (x : Value) (m : Nat) (news : List Value) : Prop :=
 news.length = m * size ∧ ∃ ao c, x = .slice ao m c ∧ (0 < m → ∃ b, ao = some ⟨b, 0, none⟩ ∧ ∀ j u, news[j]? = some u → w.cell? ⟨b, j, none⟩ = some u)
theorem SrcR.up {w w' : World} {size : Nat} {x : Value} {m : Nat} {news : List Value} (h : SrcR w size x m news) (k : Up w w') : SrcR w' size x m news := by
 obtain ⟨hl, ao, c, e, h⟩ := h
 exact ⟨hl, ao, c, e, fun hm => by obtain ⟨b, e1, e2⟩ := h hm; exact ⟨b, e1, fun j u hu => k.cell (e2 j u hu)⟩⟩
theorem own_src {w : World} {base : Nat} {e : TypeId} {size : Nat} {v : Value} {n : Nat} {xs : List Value} (h : w.ownsRow base e size v n xs) (hl : xs.length = n * size) : SrcR w size v n xs := by
 obtain ⟨ao, cap, rfl⟩ := own_len h
 refine ⟨hl, ao, cap, rfl, fun hn => ?_⟩
 obtain ⟨g, cap', e', hc⟩ := own_cell h hn
 cases e'
 exact ⟨g, rfl, hc⟩
theorem own_le {w : World} {base : Nat} {e : TypeId} {size n : Nat} {ao : Option Addr} {cap : Nat} {xs : List Value} (h : w.ownsRow base e size (.slice ao n cap) n xs) : n ≤ cap := by
 rcases h.2 with ⟨h', h0⟩ | ⟨g', cap', cur, h', hb, hg, hnc, _⟩
 ·cases h'; omega
 ·cases h'; exact hnc
theorem wpList_appR {P : Program} {t e : TypeId} {z : Value} {size bytes : Nat} (E0 : Elem P t e z size bytes) {ops : Array Oper} {rest : List Oper} {o : Oper} {a : Act} {w : World} {Q : Exit → Act → World → Prop} (hgd : o.guard = none) (s x : Operand)
  (ho : o.op = .call { callee := .builtin .append, args := #[s, x], argTypes := #[t, t] }) (base : Nat) (v : Value) (n : Nat) (xs : List Value) (hs : a.eval s = v) (hown : w.ownsRow base e size v n xs)
  (xv : Value) (m : Nat) (news : List Value) (hx : a.eval x = xv) (hsrc : SrcR w size xv m news) (h1 : ∀ u ∈ news, u.oneCell' = true)
  (hn : n + m ≤ 1073741824) (hbase : base ≤ w.heap.size)
  (h : ∀ v' w', w'.ownsRow base e size v' (n + m) (xs ++ news) → w.grownBy w' v.ownBlock → wpList P ops Q rest (a.put o.dst v') w') :
  wpList P ops Q (o :: rest) a w := by
 obtain ⟨hl, ao, c, rfl, hc⟩ := hsrc
 by_cases hm : 0 < m
 ·obtain ⟨b, rfl, hc2⟩ := hc hm
  exact wpList_appN E0 hgd s x ho base v n xs hs hown ⟨b, 0, none⟩ m c news hx hl (fun j u hu => by rw [addr_add2, Nat.zero_add]; exact hc2 j u hu) h1 hm hn hbase fun g cap w' h1 h2 _ _ => h _ w' h1 h2
 ·have hm0 : m = 0 := by omega
  subst hm0
  have hn0 : news = [] := by cases news with | nil => rfl | cons _ _ => simp at hl
  subst hn0
  obtain ⟨ao', cap', rfl⟩ := own_len hown
  obtain ⟨i, hi, hzz⟩ := Option.map_eq_some_iff.1 E0.info
  refine wpList_plain hgd fun K hK => ?_
  have hsr : Src P i.size t (.slice ao 0 c) 0 [] w := by
   cases ao with
   | none => exact Src.ofNil w E0.und c
   | some ad => exact Src.ofSlice w E0.und ad 0 c [] (by simp) (by simp) (by simp)
  have hrun := run_append_nothing (P := P) w t t o.type e i E0.und hi ao' n cap' (own_le hown) _ hsr
  unfold Oper.wp
  simp [execOp, ho, resolve, invoke, builtin, hs, hx, hrun, Result.andThen]
  exact hK _ _ (h _ w (by simpa using hown) (World.grownBy.refl _ _))
structure RLs (w : World) (us : List Value) (l : Poly) : Prop where
 len : us.length = l.length
 rd : ∀ (i : Nat) (u : Value) (r : Ring), us[i]? = some u → l[i]? = some r → Rd1 w u r
theorem RLs.nil (w : World) : RLs w [] [] := ⟨rfl, fun i u r h => by simp at h⟩
theorem RLs.up {w w' : World} {us : List Value} {l : Poly} (h : RLs w us l) (k : Up w w') : RLs w' us l := ⟨h.len, fun i u r h1 h2 => (h.rd i u r h1 h2).up k⟩
theorem RLs.app {w : World} {us vs : List Value} {l k : Poly} (h : RLs w us l) (h2 : RLs w vs k) : RLs w (us ++ vs) (l ++ k) := by
 refine ⟨by simp [h.len, h2.len], fun i u r e1 e2 => ?_⟩
 by_cases hi : i < us.length
 ·rw [List.getElem?_append_left hi] at e1
  rw [List.getElem?_append_left (by rw [← h.len]; exact hi)] at e2
  exact h.rd i u r e1 e2
 ·rw [List.getElem?_append_right (by omega)] at e1
  rw [List.getElem?_append_right (by rw [← h.len]; omega), ← h.len] at e2
  exact h2.rd _ u r e1 e2
theorem RLs.one {w : World} {us : List Value} {l : Poly} (h : RLs w us l) : ∀ u ∈ us, u.oneCell' = true := fun u hu => by
 obtain ⟨i, hi⟩ := List.mem_iff_getElem?.1 hu
 obtain ⟨r, hr⟩ := Pl.some_of_lt (show i < l.length by rw [← h.len]; exact Pl.lt_of_some hi)
 obtain ⟨ao, cap, rfl, -⟩ := h.rd i u r hi hr
 rfl
theorem RLs.rd2 {w : World} {base : Nat} {e : TypeId} {v : Value} {us : List Value} {l : Poly} (h : RLs w us l) (ho : w.ownsRow base e 1 v us.length us) : Rd2 w v l := by
 obtain ⟨ao, cap, rfl⟩ := own_len ho
 refine ⟨ao, cap, by rw [h.len], fun i r hr => ?_⟩
 obtain ⟨u, hu⟩ := Pl.some_of_lt (show i < us.length by rw [h.len]; exact Pl.lt_of_some hr)
 obtain ⟨g, cap', e', hc⟩ := own_cell ho (by have := Pl.lt_of_some hu; omega)
 cases e'
 exact ⟨g, u, rfl, hc _ _ hu, h.rd i u r hu hr⟩
theorem Rd2.vals {w : World} {v : Value} {l : Poly} (h : Rd2 w v l) : ∃ us, SrcR w 1 v us.length us ∧ RLs w us l := by
  obtain ⟨ao, cap, rfl, h⟩ := h
  cases hl : l with
  | nil => exact ⟨[], ⟨rfl, ao, cap, rfl, fun h => by simp at h⟩, RLs.nil w⟩
  | cons r0 t =>
    rw [← hl]
    obtain ⟨b, u0, rfl, -, -⟩ := h 0 r0 (by rw [hl]; rfl)
    refine ⟨(List.range l.length).map fun i => (w.cell? ⟨b, i, none⟩).getD (.bool false), ⟨by simp, some ⟨b, 0, none⟩, cap, by simp, fun _ => ⟨b, rfl, fun j u hu => ?_⟩⟩, by simp, fun i u r hu hr => ?_⟩
    · have hj : j < l.length := by have := Pl.lt_of_some hu; simpa using this
      obtain ⟨r, hr⟩ := Pl.some_of_lt hj
      obtain ⟨b', u', e', hc, -⟩ := h j r hr
      cases e'
      simp [hj, hc] at hu
      rw [hc, hu]
    · have hj : i < l.length := Pl.lt_of_some hr
      obtain ⟨b', u', e', hc, hd⟩ := h i r hr
      cases e'
      simp [hj, hc] at hu
      rw [← hu]; exact hd
theorem Rd2.len {w : World} {v : Value} {l : Poly} (h : Rd2 w v l) : ∃ ao cap, v = .slice ao l.length cap := by obtain ⟨ao, cap, e, -⟩ := h; exact ⟨ao, cap, e⟩
theorem flatten_take_succ {α : Type} {m : List (List α)} {k : Nat} {l : List α} (h : m[k]? = some l) : (m.take (k + 1)).flatten = (m.take k).flatten ++ l := by rw [Pl.take_one h]; simp
theorem flatten_take_len {α : Type} (m : List (List α)) (k : Nat) : (m.take k).flatten.length ≤ m.flatten.length := by
 have : m.flatten = (m.take k).flatten ++ (m.drop k).flatten := by rw [← List.flatten_append, List.take_append_drop]
 rw [this, List.length_append]; omega
set_option maxRecDepth 8000 in
set_option maxHeartbeats 4000000 in
theorem ringsOf_any (v : Value) (m : Mult) (w : World) (hv : Rd3 w v m) (hm : m.length ≤ 1048576) (hf : m.flatten.length ≤ 1048576) :
  Calls Tryz.prog 68 #[v] w fun e w' => ∃ u us, e = .returned u ∧ Up w w' ∧ w'.ownsRow w.heap.size 46 1 u us.length us ∧ RLs w us m.flatten := by
 obtain ⟨ao, cap, rfl, hv⟩ := hv
 have HV := hide hv
 have HF := hide (fun k => flatten_take_len m k)
 clear hv
 go_enter Tryz.func68, Tryz.ntmps68
 go_wp2
 go_loopw [3, 8] (fun sv i wr => ∃ (k : Nat) (u : Value) (us : List Value), i = .int .i64 k ∧ u = sv ∧ k ≤ m.length ∧ Hid (Up w wr) ∧ Hid (wr.ownsRow w.heap.size 46 1 u us.length us) ∧ Hid (RLs w us (m.take k).flatten)) (fun _ i _ => m.length - (intOf i).toNat)
 case atStart => exact ⟨0, _, [], rfl, rfl, Nat.zero_le _, Up.refl _, World.ownsRow_nil _ _ _ _, RLs.nil _⟩
 case round =>
  obtain ⟨k, u, us, rfl, rfl, hk, HU, HO, HR⟩ := hrel
  by_cases hlt : k < m.length
  ·obtain ⟨l, hl⟩ := Pl.some_of_lt hlt
   obtain ⟨b, x, rfl, cx, hx⟩ := HV.out k l hl
   obtain ⟨vs, hs, hR2⟩ := hx.vals
   have HS := hide (hs.up HU.out)
   have HR2 := hide hR2
   have HFl := hide (flatten_take_succ hl)
   have cx2 := HU.out.cell cx
   have HO1 := hide HR2.out.one
   have hb : Hid (us.length + vs.length ≤ 1073741824) := by
    have h1 := HF.out (k + 1)
    rw [HFl.out, List.length_append, ← HR.out.len, ← HR2.out.len] at h1
    show _ ≤ _; omega
   have hsz := hide HU.out.size
   have i1 : (0 : Int) ≤ (k : Int) := by omega
   have i2 : (k : Int) < (m.length : Int) := by omega
   clear hl cx hx hs hR2
   go_wp2_with (at_builtin; refine wpList_appR el_rings rfl (.tmp 12) (.tmp 13) rfl w.heap.size u _ _ (by rfl) HO.out x _ vs (by rfl) HS.out HO1.out hb.out hsz.out ?_; intro v5 w5 hown5 hg5; have HO5 := hide hown5; have HU5 : Hid (Up w w5) := Fr.up (S := fun _ => False) ((Fr.of_up HU.out).grown hg5 fun x hx => .inr (own_lt HO.out hx).1) (fun _ _ h => h); clear hown5 hg5)
   go_roundw
   case rel =>
    refine ⟨k + 1, _, us ++ vs, by go_num, rfl, by omega, HU5, by rw [List.length_append]; exact HO5, ?_⟩
    rw [HFl.out]
    exact HR.out.app HR2.out
   case measure => simp [intOf]; omega
  ·have hk2 : k = m.length := by omega
   subst hk2
   go_wp2
   go_ret
   exact ⟨_, us, rfl, HU.out, HO.out, by have := HR.out; rwa [List.take_length] at this⟩
theorem edges_len (l : Poly) : (Vd.edges l).length ≤ l.flatten.length := by
 unfold Vd.edges
 induction l with
 | nil => simp
 | cons r t ih => simp only [List.flatMap_cons, List.length_append, List.flatten_cons, Vd.segs_len]; omega
theorem edges_take_succ {l : Poly} {k : Nat} {r : Ring} (h : l[k]? = some r) : Vd.edges (l.take (k + 1)) = Vd.edges (l.take k) ++ Vd.segs r := by unfold Vd.edges; rw [Pl.take_one h]; simp
theorem flatG_len4 (l : List Vd.Seg) : (flatG segC l).length = l.length * 4 := by
 unfold flatG
 induction l with
 | nil => rfl
 | cons s t ih => simp only [List.flatMap_cons, List.length_append, ih, List.length_cons, segC, List.length_nil]; omega
theorem segC_one (l : List Vd.Seg) : ∀ u ∈ flatG segC l, u.oneCell' = true := fun u hu => by
 unfold flatG at hu
 obtain ⟨s, -, hs⟩ := List.mem_flatMap.1 hu
 simp [segC] at hs
 rcases hs with rfl | rfl | rfl | rfl <;> rfl
set_option maxRecDepth 8000 in
set_option maxHeartbeats 4000000 in
theorem edgesOf_any (v : Value) (l : Poly) (w : World) (hv : Rd2 w v l) (hl : l.length ≤ 1048576) (hf : l.flatten.length ≤ 1048576) (hr : ∀ r ∈ l, r.length ≤ 1048576) :
  Calls Tryz.prog 69 #[v] w fun e w' => ∃ u, e = .returned u ∧ Up w w' ∧ w'.ownsRow w.heap.size 98 4 u (Vd.edges l).length (flatG segC (Vd.edges l)) := by
 obtain ⟨ao, cap, rfl, hv⟩ := hv
 have HV := hide hv
 have HR := hide hr
 have HF := hide (fun k => Nat.le_trans (edges_len (l.take k)) (flatten_take_len l k))
 clear hv hr
 go_enter Tryz.func69, Tryz.ntmps69
 go_wp2
 go_loopw [3, 8] (fun sv i wr => ∃ (k : Nat) (u : Value), i = .int .i64 k ∧ u = sv ∧ k ≤ l.length ∧ Hid (Up w wr) ∧ Hid (wr.ownsRow w.heap.size 98 4 u (Vd.edges (l.take k)).length (flatG segC (Vd.edges (l.take k))))) (fun _ i _ => l.length - (intOf i).toNat)
 case atStart => exact ⟨0, _, rfl, rfl, Nat.zero_le _, Up.refl _, World.ownsRow_nil _ _ _ _⟩
 case round =>
  obtain ⟨k, u, rfl, rfl, hk, HU, HO⟩ := hrel
  by_cases hlt : k < l.length
  ·obtain ⟨r, hr⟩ := Pl.some_of_lt hlt
   obtain ⟨b, x, rfl, cx, hx⟩ := HV.out k r hr
   have HFl := hide (edges_take_succ hr)
   have HK := hide (segments_any x r wr (hx.up HU.out) (HR.out r (Pl.mem_of_some hr)))
   have cx2 := HU.out.cell cx
   have hb : Hid ((Vd.edges (l.take k)).length + (Vd.segs r).length ≤ 1073741824) := by
    have h1 := HF.out (k + 1)
    rw [HFl.out, List.length_append] at h1
    show _ ≤ _; omega
   have i1 : (0 : Int) ≤ (k : Int) := by omega
   have i2 : (k : Int) < (l.length : Int) := by omega
   clear hr cx hx
   go_wp2_with fail
   refine HK.out.mono ?_
   rintro e w4 ⟨y, rfl, hz, hown⟩
   have HU4 := hide (HU.out.trans hz)
   have HO4 := hide (own_up HO.out hz)
   have HS := hide (own_src hown (flatG_len4 _))
   have H1 := hide (segC_one (Vd.segs r))
   have hsz := hide HU4.out.size
   clear hz hown cx2 HK
   go_wp2_with (at_builtin; refine wpList_appR el_segs rfl (.tmp 12) (.tmp 14) rfl w.heap.size u _ _ (by rfl) HO4.out y _ _ (by rfl) HS.out H1.out hb.out hsz.out ?_; intro v5 w5 hown5 hg5; have HO5 := hide hown5; have HU5 : Hid (Up w w5) := Fr.up (S := fun _ => False) ((Fr.of_up HU4.out).grown hg5 fun x hx => .inr (own_lt HO4.out hx).1) (fun _ _ h => h); clear hown5 hg5)
   go_roundw
   case rel =>
    refine ⟨k + 1, _, by go_num, rfl, by omega, HU5, ?_⟩
    rw [HFl.out, List.length_append, flatG_append]
    exact HO5
   case measure => simp [intOf]; omega
  ·have hk2 : k = l.length := by omega
   subst hk2
   go_wp2
   go_ret
   exact ⟨_, rfl, HU.out, by have := HO.out; rwa [List.take_length] at this⟩
theorem along_bdd {s : Vd.Seg} (h : Vd.CdS s) : Bdd 65536 (Vd.along s) := by unfold Vd.CdS Vd.Cd at h; unfold Bdd Vd.along; simp only; omega
set_option maxHeartbeats 1000000 in
theorem along_any (s : Vd.Seg) (hs : Vd.CdS s) (w : World) :
  Calls Tryz.prog 107 #[segV s] w fun e w' => e = .returned (ptV (Vd.along s)) ∧ Up w w' := by
 obtain ⟨⟨ax, ay⟩, ⟨bx, bY⟩⟩ := s
 simp only [Vd.CdS, Vd.Cd] at hs
 simp only [ptV, segV, Vd.along]
 go_enter Tryz.func107, Tryz.ntmps107
 go_wp2
 refine bodyPost_ret (v := .agg #[.int .i64 (bx - ax), .int .i64 (bY - ay)]) (by simp [results, Tryz.results107, go_sem]) rfl ⟨rfl, ?_⟩
 repeat (refine Up.setCell ?_ (by simp) _)
 exact ((Up.refl _).alloc _).alloc _
set_option maxHeartbeats 1000000 in
theorem turn_any (u v : Pnt) {A B : Int} (hu : Bdd A u) (hv : Bdd B v) (hA : 0 ≤ A) (hB : 0 ≤ B) (hAB : A * B ≤ 2305843009213693951) (w : World) :
  Calls Tryz.prog 133 #[ptV u, ptV v] w fun e w' => e = .returned (.int .i64 (Vd.turnW u v)) ∧ Up w w' := by
 obtain ⟨ux, uy⟩ := u
 obtain ⟨vx, vy⟩ := v
 simp only [Bdd] at hu hv
 have m1 := mul_bd (a := ux) (b := vy) (A := A) (B := B) (by omega) (by omega) (by omega) (by omega)
 have m2 := mul_bd (a := uy) (b := vx) (A := A) (B := B) (by omega) (by omega) (by omega) (by omega)
 simp only [ptV, Vd.turnW]
 generalize A * B = AB at *
 have k1 : wrap64 (ux * vy) = ux * vy := w64 (by omega) (by omega)
 have k2 : wrap64 (uy * vx) = uy * vx := w64 (by omega) (by omega)
 go_enter Tryz.func133, Tryz.ntmps133
 go_wp2
 go_ret
 exact ⟨rfl, ((Up.refl _).alloc _).alloc _⟩
set_option maxHeartbeats 1000000 in
theorem back_any (u : Pnt) (hu : Bdd 65536 u) (w : World) :
  Calls Tryz.prog 134 #[ptV u] w fun e w' => e = .returned (ptV (-u.1, -u.2)) ∧ Up w w' := by
 obtain ⟨x, y⟩ := u
 simp only [Bdd] at hu
 simp only [ptV]
 go_enter Tryz.func134, Tryz.ntmps134
 go_wp2
 refine bodyPost_ret (v := .agg #[.int .i64 (-x), .int .i64 (-y)]) (by simp [results, Tryz.results134, go_sem]) rfl ⟨rfl, ?_⟩
 repeat (refine Up.setCell ?_ (by simp) _)
 exact ((Up.refl _).alloc _).alloc _
set_option maxHeartbeats 1000000 in
theorem right_any (u : Pnt) (hu : Bdd 65536 u) (w : World) :
  Calls Tryz.prog 108 #[ptV u] w fun e w' => e = .returned (ptV (u.2, -u.1)) ∧ Up w w' := by
 obtain ⟨x, y⟩ := u
 simp only [Bdd] at hu
 simp only [ptV]
 go_enter Tryz.func108, Tryz.ntmps108
 go_wp2
 refine bodyPost_ret (v := .agg #[.int .i64 y, .int .i64 (-x)]) (by simp [results, Tryz.results108, go_sem]) rfl ⟨rfl, ?_⟩
 repeat (refine Up.setCell ?_ (by simp) _)
 exact ((Up.refl _).alloc _).alloc _
set_option maxHeartbeats 1000000 in
theorem amount_any (n : Int) (h1 : -4611686018427387904 ≤ n) (h2 : n ≤ 4611686018427387904) (w : World) :
  Calls Tryz.prog 149 #[.int .i64 n] w fun e w' => e = .returned (.int .i64 (Vd.amt n)) ∧ Up w w' := by
 unfold Vd.amt
 by_cases h : n < 0
 ·rw [if_pos h]
  go_enter Tryz.func149, Tryz.ntmps149
  go_wp2
  go_ret
  exact ⟨rfl, Up.refl _⟩
 ·rw [if_neg h]
  go_enter Tryz.func149, Tryz.ntmps149
  go_wp2
  go_ret
  exact ⟨rfl, Up.refl _⟩
theorem hsz_alloc (w : World) (o : Obj) : (w.alloc o).heap.size = w.heap.size + 1 := by simp
def Mp (p : Vd.Spot) : Prop := (-65536 ≤ p.1.1 ∧ p.1.1 ≤ 65536) ∧ (-65536 ≤ p.1.2 ∧ p.1.2 ≤ 65536) ∧ 1 ≤ p.2 ∧ p.2 ≤ 2
theorem gap_bdd {p : Vd.Spot} {s : Vd.Seg} (hp : Mp p) (hs : Vd.CdS s) : Bdd 131072 (Vd.gapW p s) := by
 obtain ⟨⟨x1, x2⟩, ⟨y1, y2⟩, t1, t2⟩ := hp
 unfold Vd.CdS Vd.Cd at hs
 have m1 := mul_bd (a := s.1.1) (b := p.2) (A := 32768) (B := 2) (by omega) (by omega) (by omega) (by omega)
 have m2 := mul_bd (a := s.1.2) (b := p.2) (A := 32768) (B := 2) (by omega) (by omega) (by omega) (by omega)
 unfold Bdd Vd.gapW
 simp only
 omega
theorem turn_bd {A B : Int} {u v : Pnt} (hu : Bdd A u) (hv : Bdd B v) : -(2 * (A * B)) ≤ Vd.turnW u v ∧ Vd.turnW u v ≤ 2 * (A * B) := by
 unfold Bdd at hu hv
 have m1 := mul_bd (a := u.1) (b := v.2) (A := A) (B := B) (by omega) (by omega) (by omega) (by omega)
 have m2 := mul_bd (a := u.2) (b := v.1) (A := A) (B := B) (by omega) (by omega) (by omega) (by omega)
 unfold Vd.turnW
 omega
theorem amt_bd {n A : Int} (h : -A ≤ n ∧ n ≤ A) : 0 ≤ Vd.amt n ∧ Vd.amt n ≤ A := by unfold Vd.amt; split <;> omega
theorem tdiv_bd {a b A : Int} (h : 0 ≤ a ∧ a ≤ A) (hb : 0 ≤ b) : 0 ≤ a.tdiv b ∧ a.tdiv b ≤ A := by
 rw [Int.tdiv_eq_ediv_of_nonneg h.1]
 exact ⟨Int.ediv_nonneg h.1 hb, Int.le_trans (Int.ediv_le_self _ h.1) h.2⟩
theorem partsTo_bd {p : Vd.Spot} {u : Pnt} {s : Vd.Seg} (hp : Mp p) (hu : Bdd 65536 u) (hs : Vd.CdS s) : 1 ≤ Vd.partsTo p u s ∧ Vd.partsTo p u s ≤ 17179869185 := by
 have h1 := turn_bd hu (along_bdd hs)
 have h2 := mul_bd (a := p.2) (b := Vd.turnW u (Vd.along s)) (A := 2) (B := 8589934592) (by have := hp.2.2; omega) (by have := hp.2.2; omega) (by omega) (by omega)
 have h3 := amt_bd (n := p.2 * Vd.turnW u (Vd.along s)) (A := 17179869184) (by omega)
 have h4 := amt_bd (turn_bd (gap_bdd hp hs) (along_bdd hs))
 have h5 := tdiv_bd h3 h4.1
 unfold Vd.partsTo
 split <;> omega
set_option maxRecDepth 8000 in
set_option maxHeartbeats 4000000 in
theorem partsTo_any (p : Vd.Spot) (u : Pnt) (s : Vd.Seg) (hp : Mp p) (hu : Bdd 65536 u) (hs : Vd.CdS s) (w : World) :
  Calls Tryz.prog 135 #[spotV p, ptV u, segV s] w fun e w' => e = .returned (.int .i64 (Vd.partsTo p u s)) ∧ Up w w' := by
 have HD : Hid (Vd.partsTo p u s = if Vd.amt (Vd.turnW (Vd.gapW p s) (Vd.along s)) = 0 then 1 else (Vd.amt (p.2 * Vd.turnW u (Vd.along s))).tdiv (Vd.amt (Vd.turnW (Vd.gapW p s) (Vd.along s))) + 1) := rfl
 have HG := hide (gap_bdd hp hs)
 have HS := hide hs
 have HU := hide hu
 have HL := hide (along_bdd hs)
 have h1 := turn_bd hu (along_bdd hs)
 have h2 := mul_bd (a := p.2) (b := Vd.turnW u (Vd.along s)) (A := 2) (B := 8589934592) (by have := hp.2.2; omega) (by have := hp.2.2; omega) (by omega) (by omega)
 have h3 := amt_bd (n := p.2 * Vd.turnW u (Vd.along s)) (A := 17179869184) (by omega)
 have h6 := turn_bd (gap_bdd hp hs) (along_bdd hs)
 have h4 := amt_bd h6
 have h5 := tdiv_bd h3 h4.1
 have HA : Hid (∀ w, Calls Tryz.prog 107 #[segV s] w fun e w' => e = .returned (ptV (Vd.along s)) ∧ Up w w') := fun w => along_any s hs w
 have HT1 : Hid (∀ w, Calls Tryz.prog 133 #[ptV (Vd.gapW p s), ptV (Vd.along s)] w fun e w' => e = .returned (.int .i64 (Vd.turnW (Vd.gapW p s) (Vd.along s))) ∧ Up w w') := fun w => turn_any _ _ (gap_bdd hp hs) (along_bdd hs) (by omega) (by omega) (by omega) w
 have HT2 : Hid (∀ w, Calls Tryz.prog 133 #[ptV u, ptV (Vd.along s)] w fun e w' => e = .returned (.int .i64 (Vd.turnW u (Vd.along s))) ∧ Up w w') := fun w => turn_any _ _ hu (along_bdd hs) (by omega) (by omega) (by omega) w
 have HM1 : Hid (∀ w, Calls Tryz.prog 149 #[.int .i64 (Vd.turnW (Vd.gapW p s) (Vd.along s))] w fun e w' => e = .returned (.int .i64 (Vd.amt (Vd.turnW (Vd.gapW p s) (Vd.along s)))) ∧ Up w w') := fun w => amount_any _ (by omega) (by omega) w
 have HM2 : Hid (∀ w, Calls Tryz.prog 149 #[.int .i64 (p.2 * Vd.turnW u (Vd.along s))] w fun e w' => e = .returned (.int .i64 (Vd.amt (p.2 * Vd.turnW u (Vd.along s)))) ∧ Up w w') := fun w => amount_any _ (by omega) (by omega) w
 generalize Vd.along s = L at *
 obtain ⟨lx, ly⟩ := L
 generalize hT : Vd.turnW (Vd.gapW p s) (lx, ly) = T at *
 generalize hQ : Vd.turnW u (lx, ly) = Q at *
 generalize hO : Vd.amt T = O at *
 generalize hV : Vd.amt (p.2 * Q) = V at *
 clear hT hQ hO hV h6 h1
 obtain ⟨⟨x1, x2⟩, ⟨y1, y2⟩, t1, t2⟩ := hp
 obtain ⟨⟨x, y⟩, t⟩ := p
 obtain ⟨ux, uy⟩ := u
 obtain ⟨⟨ax, ay⟩, ⟨bx, bY⟩⟩ := s
 simp only [Vd.CdS, Vd.Cd] at hs
 simp only at x1 x2 y1 y2 t1 t2 h2
 have m1 := mul_bd (a := ax) (b := t) (A := 32768) (B := 2) (by omega) (by omega) (by omega) (by omega)
 have m2 := mul_bd (a := ay) (b := t) (A := 32768) (B := 2) (by omega) (by omega) (by omega) (by omega)
 generalize hP : Vd.partsTo ((x, y), t) (ux, uy) ((ax, ay), bx, bY) = P at *
 clear hP hu
 simp only [ptV, segV, spotV, Vd.gapW] at *
 have k1 : wrap64 (ax * t) = ax * t := w64 (by omega) (by omega)
 have k2 : wrap64 (ay * t) = ay * t := w64 (by omega) (by omega)
 have k3 : wrap64 (t * Q) = t * Q := w64 (by omega) (by omega)
 have k4 : wrap64 (V.tdiv O) = V.tdiv O := w64 (by omega) (by omega)
 have HW0 : Hid (Up w ((((w.alloc (.cells #[.int .i64 x, .int .i64 y, .int .i64 t] 65)).alloc (.cells #[.int .i64 ux, .int .i64 uy] 133)).alloc (.cells #[.int .i64 ax, .int .i64 ay, .int .i64 bx, .int .i64 bY] 98)).alloc (.cells #[.int .i64 (ax * t - x), .int .i64 (ay * t - y)] 133))) := (((Up.refl _).alloc _).alloc _ |>.alloc _).alloc _
 have RP : VRow _ _ _ _ := (((new_row (w := w) (o := .cells #[.int .i64 x, .int .i64 y, .int .i64 t] 65) (vs := [_, _, _]) rfl).alloc (.cells #[.int .i64 ux, .int .i64 uy] 133)).alloc (.cells #[.int .i64 ax, .int .i64 ay, .int .i64 bx, .int .i64 bY] 98)).alloc (.cells #[.int .i64 (ax * t - x), .int .i64 (ay * t - y)] 133)
 have RU := ((new_row (w := w.alloc (.cells #[.int .i64 x, .int .i64 y, .int .i64 t] 65)) (o := .cells #[.int .i64 ux, .int .i64 uy] 133) (vs := [_, _]) rfl).alloc (.cells #[.int .i64 ax, .int .i64 ay, .int .i64 bx, .int .i64 bY] 98)).alloc (.cells #[.int .i64 (ax * t - x), .int .i64 (ay * t - y)] 133)
 have RS := (new_row (w := (w.alloc (.cells #[.int .i64 x, .int .i64 y, .int .i64 t] 65)).alloc (.cells #[.int .i64 ux, .int .i64 uy] 133)) (o := .cells #[.int .i64 ax, .int .i64 ay, .int .i64 bx, .int .i64 bY] 98) (vs := [_, _, _, _]) rfl).alloc (.cells #[.int .i64 (ax * t - x), .int .i64 (ay * t - y)] 133)
 have RG := new_row (w := ((w.alloc (.cells #[.int .i64 x, .int .i64 y, .int .i64 t] 65)).alloc (.cells #[.int .i64 ux, .int .i64 uy] 133)).alloc (.cells #[.int .i64 ax, .int .i64 ay, .int .i64 bx, .int .i64 bY] 98)) (o := .cells #[.int .i64 (ax * t - x), .int .i64 (ay * t - y)] 133) (vs := [_, _]) rfl
 simp only [hsz_alloc, Nat.add_assoc, Nat.reduceAdd] at RU RS RG
 replace RP := hide RP
 replace RU := hide RU
 replace RS := hide RS
 replace RG := hide RG
 go_enter Tryz.func135, Tryz.ntmps135
 go_wp2_with fail
 have s0 := RS.out.gr (i := 0) rfl
 have s1 := RS.out.gr (i := 1) rfl
 have s2 := RS.out.gr (i := 2) rfl
 have s3 := RS.out.gr (i := 3) rfl
 have g0 := RG.out.gr (i := 0) rfl
 have g1 := RG.out.gr (i := 1) rfl
 refine wp_region_up (by kernel_rfl) (by kernel_rfl) ?_
 repeat (first | go_big_quiet_step (first | (go_at_call 107; exact Calls.up_of (HA.out _)) | (go_at_call 133; exact Calls.up_of (HT1.out _)) | (go_at_call 149; exact Calls.up_of (HM1.out _))))
 refine wpQuiet_nil ?_
 rintro w3 ⟨⟨_, u3⟩, rfl⟩
 have HU3 := hide (HW0.out.trans u3)
 replace RP := hide (RP.out.up u3)
 replace RU := hide (RU.out.up u3)
 replace RS := hide (RS.out.up u3)
 clear u3 s0 s1 s2 s3 g0 g1 HT1 HM1 RG HW0
 by_cases hO : O = 0
 ·have HR : Hid (P = 1) := by rw [HD.out, if_pos hO]; exact rfl
  clear h2 h3 h4 h5 k3 k4 m1 m2 k1 k2 HA HM2 HT2
  have hO' : (O == 0) = true := by rw [hO]; rfl
  clear hO HD
  go_wp2
  go_ret
  exact ⟨by rw [HR.out]; rfl, HU3.out⟩
 ·have HR : Hid (P = V.tdiv O + 1) := by rw [HD.out, if_neg hO]; exact rfl
  have hO' : (O == 0) = false := beq_eq_false_iff_ne.2 hO
  go_wp2_with fail
  have p2 := RP.out.gr (i := 2) rfl
  have s0 := RS.out.gr (i := 0) rfl
  have s1 := RS.out.gr (i := 1) rfl
  have s2 := RS.out.gr (i := 2) rfl
  have s3 := RS.out.gr (i := 3) rfl
  have g0 := RU.out.gr (i := 0) rfl
  have g1 := RU.out.gr (i := 1) rfl
  refine wp_region_up (by kernel_rfl) (by kernel_rfl) ?_
  repeat (first | go_big_quiet_step (first | (go_at_call 107; exact Calls.up_of (HA.out _)) | (go_at_call 133; exact Calls.up_of (HT2.out _)) | (go_at_call 149; exact Calls.up_of (HM2.out _))))
  refine wpQuiet_nil ?_
  rintro w4 ⟨⟨_, u4⟩, rfl⟩
  have HU4 := hide (HU3.out.trans u4)
  clear u4 s0 s1 s2 s3 g0 g1 p2
  go_wp2
  go_ret
  exact ⟨by rw [HR.out]; rfl, HU4.out⟩
end Go.Proofs.YtcclepohmhdpbabGreatDoor
