import Derived.Test.YtcclepohmhdpbabGreatDoorNoted
import Derived.Deep.DeepCutAuto
import Derived.Test.YtcclepohmhdpbabGreatDoorWalkI
namespace Go.Proofs.YtcclepohmhdpbabGreatDoor
set_option linter.all false
open Go.RowKit Go.Deep
def RV (F : Nat → Prop) (w : World) (v : Value) (vs : List Value) : Prop :=
 ∃ ao cap, v = .slice ao vs.length cap ∧ ∀ i u, vs[i]? = some u → ∃ b, F b ∧ ao = some ⟨b, 0, none⟩ ∧ w.cell? ⟨b, i, none⟩ = some u
structure HS (F : Nat → Prop) (w : World) (sv pv rv rmv pmv : Value) (sm : Int) (R P : List (Value × Int)) (n : Nat) : Prop where
 rings : RV F w rv (fstV R)
 rm : RV F w rmv (intV R)
 rr : ∀ e ∈ R, ∃ n, n ≤ 1048576 ∧ RF1 F w e.1 (List.replicate n (-77, e.2))
 polys : RV F w pv (fstV P)
 pm : RV F w pmv (intV P)
 pp : ∀ e ∈ P, ∃ n, n ≤ 1048576 ∧ RF2 F w e.1 (List.replicate n [(77, e.2)])
 set : RF3 F w sv (List.replicate n [[(777, sm)]])
 bn : n ≤ 1048576
 bR : R.length ≤ 1073741824
 bP : P.length ≤ 1073741824
theorem own_cell {w : World} {base : Nat} {e : TypeId} {size : Nat} {v : Value} {n : Nat} {xs : List Value} (h : w.ownsRow base e size v n xs) (hn : 0 < n) : ∃ g cap, v = .slice (some ⟨g, 0, none⟩) n cap ∧ ∀ (j : Nat) u, xs[j]? = some u → w.cell? ⟨g, j, none⟩ = some u := by
 rcases h.2 with ⟨_, h0⟩ | ⟨g, cap, cur, rfl, hb, hh, _⟩
 ·omega
 ·refine ⟨g, cap, rfl, fun j u hu => ?_⟩
  have := h.cells (g := g) rfl j u hu
  have hadd : (⟨g, 0, none⟩ : Addr).add j = ⟨g, j, none⟩ := by unfold Addr.add; split <;> simp_all
  rwa [hadd] at this
theorem own_len {w : World} {base : Nat} {e : TypeId} {size : Nat} {v : Value} {n : Nat} {xs : List Value} (h : w.ownsRow base e size v n xs) : ∃ ao cap, v = .slice ao n cap := by
 rcases h.2 with ⟨rfl, rfl⟩ | ⟨g, cap, cur, rfl, _⟩
 ·exact ⟨_, _, rfl⟩
 ·exact ⟨_, _, rfl⟩
theorem Fr.then {S T : Nat → Prop} {a b c : World} (h : Fr S a b) (k : Fr T b c) (hT : ∀ x, x < a.heap.size → T x → S x) : Fr S a c :=
 ⟨k.os.trans h.os, k.tape.trans h.tape, k.output.trans h.output, Nat.le_trans h.size k.size, fun i hi hs => (k.block i (Nat.lt_of_lt_of_le hi h.size) (fun e => hs (hT i hi e))).trans (h.block i hi hs)⟩
theorem Fr.of_grown {w w' : World} {row : Option Nat} (h : w.grownBy w' row) : Fr (fun b => row = some b) w w' := ⟨h.os, h.tape, h.output, h.size, fun b hb hs => h.block b hb (fun e => hs e.symm)⟩
def Rc2 (w : World) (v : Value) (l : Poly) : Prop :=
 ∃ ao cap, v = .slice ao l.length cap ∧ l.length ≤ cap ∧ ∀ i r, l[i]? = some r → ∃ b u, ao = some ⟨b, 0, none⟩ ∧ w.cell? ⟨b, i, none⟩ = some u ∧ Rd1 w u r
theorem Rc2.rd {w : World} {v : Value} {l : Poly} (h : Rc2 w v l) : Rd2 w v l := by
 obtain ⟨ao, cap, e, -, h⟩ := h
 exact ⟨ao, cap, e, h⟩
structure L1 where
 v : Value
 r : Ring
structure L2 where
 v : Value
 rs : List L1
structure L3 where
 v : Value
 ps : List L2
def L1.bl (x : L1) : List Nat := x.v.ownBlock.toList
def L2.bl (x : L2) : List Nat := x.v.ownBlock.toList ++ x.rs.flatMap L1.bl
def L3.bl (x : L3) : List Nat := x.v.ownBlock.toList ++ x.ps.flatMap L2.bl
def L2.pts (x : L2) : Poly := x.rs.map L1.r
def L3.m (x : L3) : Mult := x.ps.map L2.pts
def L1.ok (w : World) (x : L1) : Prop := w.ownsRow 0 48 2 x.v x.r.length (flat x.r)
structure L2.ok (w : World) (x : L2) : Prop where
 row : w.ownsRow 0 46 1 x.v x.rs.length (x.rs.map L1.v)
 sub : ∀ y ∈ x.rs, y.ok w
structure L3.ok (w : World) (x : L3) : Prop where
 row : w.ownsRow 0 45 1 x.v x.ps.length (x.ps.map L2.v)
 sub : ∀ y ∈ x.ps, y.ok w
theorem L1.ok.of {w w' : World} {x : L1} (h : x.ok w) (k : ∀ b ∈ x.bl, w'.heap[b]? = w.heap[b]?) : x.ok w' := own_of_block h fun g hg => k g (by simp [L1.bl, hg])
theorem L2.ok.of {w w' : World} {x : L2} (h : x.ok w) (k : ∀ b ∈ x.bl, w'.heap[b]? = w.heap[b]?) : x.ok w' :=
 ⟨own_of_block h.row fun g hg => k g (by simp [L2.bl, hg]), fun y hy => (h.sub y hy).of fun b hb => k b (by simp only [L2.bl, List.mem_append, List.mem_flatMap]; exact .inr ⟨y, hy, hb⟩)⟩
theorem L3.ok.of {w w' : World} {x : L3} (h : x.ok w) (k : ∀ b ∈ x.bl, w'.heap[b]? = w.heap[b]?) : x.ok w' :=
 ⟨own_of_block h.row fun g hg => k g (by simp [L3.bl, hg]), fun y hy => (h.sub y hy).of fun b hb => k b (by simp only [L3.bl, List.mem_append, List.mem_flatMap]; exact .inr ⟨y, hy, hb⟩)⟩
theorem L1.ok.lt {w : World} {x : L1} (h : x.ok w) : ∀ b ∈ x.bl, b < w.heap.size := fun b hb => (own_lt h (by simpa [L1.bl] using hb)).2
theorem L2.ok.lt {w : World} {x : L2} (h : x.ok w) : ∀ b ∈ x.bl, b < w.heap.size := fun b hb => by
 simp only [L2.bl, List.mem_append, List.mem_flatMap] at hb
 rcases hb with hb | ⟨y, hy, hb⟩
 ·exact (own_lt h.row (by simpa using hb)).2
 ·exact (h.sub y hy).lt b hb
theorem L3.ok.lt {w : World} {x : L3} (h : x.ok w) : ∀ b ∈ x.bl, b < w.heap.size := fun b hb => by
 simp only [L3.bl, List.mem_append, List.mem_flatMap] at hb
 rcases hb with hb | ⟨y, hy, hb⟩
 ·exact (own_lt h.row (by simpa using hb)).2
 ·exact (h.sub y hy).lt b hb
theorem L1.ok.rd {w : World} {x : L1} (h : x.ok w) : Rd1 w x.v x.r := by
 obtain ⟨ao, cap, e⟩ := own_len h
 refine ⟨ao, cap, e, fun i p hp => ?_⟩
 obtain ⟨g, cap', e', hc⟩ := own_cell h (by have := Pl.lt_of_some hp; omega)
 rw [e] at e'
 cases e'
 have := flat_at _ _ _ hp
 exact ⟨g, rfl, hc _ _ this.1, hc _ _ this.2⟩
theorem L2.ok.rd {w : World} {x : L2} (h : x.ok w) : Rd2 w x.v x.pts := by
 obtain ⟨ao, cap, e⟩ := own_len h.row
 refine ⟨ao, cap, by rw [e]; simp [L2.pts], fun i p hp => ?_⟩
 simp only [L2.pts, List.getElem?_map, Option.map_eq_some_iff] at hp
 obtain ⟨y, hy, rfl⟩ := hp
 obtain ⟨g, cap', e', hc⟩ := own_cell h.row (by have := Pl.lt_of_some hy; omega)
 rw [e] at e'
 cases e'
 exact ⟨g, y.v, rfl, hc _ _ (by rw [List.getElem?_map, hy]; rfl), (h.sub y (Pl.mem_of_some hy)).rd⟩
theorem L3.ok.rd {w : World} {x : L3} (h : x.ok w) : Rd3 w x.v x.m := by
 obtain ⟨ao, cap, e⟩ := own_len h.row
 refine ⟨ao, cap, by rw [e]; simp [L3.m], fun i p hp => ?_⟩
 simp only [L3.m, List.getElem?_map, Option.map_eq_some_iff] at hp
 obtain ⟨y, hy, rfl⟩ := hp
 obtain ⟨g, cap', e', hc⟩ := own_cell h.row (by have := Pl.lt_of_some hy; omega)
 rw [e] at e'
 cases e'
 exact ⟨g, y.v, rfl, hc _ _ (by rw [List.getElem?_map, hy]; rfl), (h.sub y (Pl.mem_of_some hy)).rd⟩
theorem el_pt : Elem Tryz.prog 46 48 (.agg #[.int .i64 0, .int .i64 0]) 2 16 := ⟨und_pts, info_pt, rfl, by omega, by omega⟩
theorem bl1 {x : L1} {b : Nat} (h : b ∈ x.bl) : x.v.ownBlock = some b := by simpa [L1.bl] using h
theorem L1.ok.row_ne {w : World} {x : L1} (h : x.ok w) {b : Nat} {t : TypeId} {vs : List Value} (hb : VRow w b t vs) (h3 : t ≠ 48) : b ∉ x.bl := fun e => own_row_ne h hb (Ne.symm h3) (bl1 e)
theorem L2.ok.row_ne {w : World} {x : L2} (h : x.ok w) {b : Nat} {t : TypeId} {vs : List Value} (hb : VRow w b t vs) (h2 : t ≠ 46) (h3 : t ≠ 48) : b ∉ x.bl := fun e => by
 simp only [L2.bl, List.mem_append, List.mem_flatMap] at e
 rcases e with e | ⟨y, hy, e⟩
 ·exact own_row_ne h.row hb (Ne.symm h2) (by simpa using e)
 ·exact (h.sub y hy).row_ne hb h3 e
theorem L3.ok.row_ne {w : World} {x : L3} (h : x.ok w) {b : Nat} {t : TypeId} {vs : List Value} (hb : VRow w b t vs) (h1 : t ≠ 45) (h2 : t ≠ 46) (h3 : t ≠ 48) : b ∉ x.bl := fun e => by
 simp only [L3.bl, List.mem_append, List.mem_flatMap] at e
 rcases e with e | ⟨y, hy, e⟩
 ·exact own_row_ne h.row hb (Ne.symm h1) (by simpa using e)
 ·exact (h.sub y hy).row_ne hb h2 h3 e
theorem L1.ok.fr {S : Nat → Prop} {w w' : World} {x : L1} (h : x.ok w) (k : Fr S w w') (hs : ∀ b ∈ x.bl, ¬ S b) : x.ok w' := h.of fun b hb => k.block b (h.lt b hb) (hs b hb)
theorem L2.ok.fr {S : Nat → Prop} {w w' : World} {x : L2} (h : x.ok w) (k : Fr S w w') (hs : ∀ b ∈ x.bl, ¬ S b) : x.ok w' := h.of fun b hb => k.block b (h.lt b hb) (hs b hb)
theorem L3.ok.fr {S : Nat → Prop} {w w' : World} {x : L3} (h : x.ok w) (k : Fr S w w') (hs : ∀ b ∈ x.bl, ¬ S b) : x.ok w' := h.of fun b hb => k.block b (h.lt b hb) (hs b hb)
theorem L1.ok.up {w w' : World} {x : L1} (h : x.ok w) (k : Up w w') : x.ok w' := h.of fun b hb => k.block b (h.lt b hb)
theorem L2.ok.up {w w' : World} {x : L2} (h : x.ok w) (k : Up w w') : x.ok w' := h.of fun b hb => k.block b (h.lt b hb)
theorem L3.ok.up {w w' : World} {x : L3} (h : x.ok w) (k : Up w w') : x.ok w' := h.of fun b hb => k.block b (h.lt b hb)
theorem own_ne {w : World} {base base' : Nat} {e e' : TypeId} {size size' : Nat} {v v' : Value} {n n' : Nat} {xs xs' : List Value} (h : w.ownsRow base e size v n xs) (h' : w.ownsRow base' e' size' v' n' xs') (he : e ≠ e') {b : Nat} (hb : v.ownBlock = some b) : ¬ v'.ownBlock = some b := fun hb' => by
 rcases own_apart h h' he with k | k
 ·rw [hb] at k; cases k
 ·exact k (hb.trans hb'.symm)
theorem L1.ok.grown {w w' : World} {y : L1} {base n : Nat} {v : Value} {xs : List Value} (h : y.ok w) {e : TypeId} (ho : w.ownsRow base e 1 v n xs) (he : 48 ≠ e) (hg : w.grownBy w' v.ownBlock) : y.ok w' :=
 h.fr (Fr.of_grown hg) fun b hb => own_ne h ho he (bl1 hb)
theorem L2.ok.grown {w w' : World} {y : L2} {base n : Nat} {v : Value} {xs : List Value} (h : y.ok w) {e : TypeId} (ho : w.ownsRow base e 1 v n xs) (he : 48 ≠ e) (he2 : 46 ≠ e) (hg : w.grownBy w' v.ownBlock) : y.ok w' :=
 h.fr (Fr.of_grown hg) fun b hb e => by
  simp only [L2.bl, List.mem_append, List.mem_flatMap] at hb
  rcases hb with hb | ⟨z, hz, hb⟩
  ·exact own_ne h.row ho he2 (by simpa using hb) e
  ·exact own_ne (h.sub z hz) ho he (bl1 hb) e
def nil3 : L3 := ⟨.slice none 0 0, []⟩
theorem nil3_ok (w : World) : nil3.ok w := ⟨World.ownsRow_nil _ _ _ _, by simp [nil3]⟩
theorem rcut_any (lit : Bool) (l : List UInt8) (o : Nat) (off : Bool) (rb : Nat) (w : World) (hr : RB w rb l o false off) (hl : l.length ≤ 6000) (hlit : lit = ((o : Int) == 1)) :
  Calls Tryz.prog 114 #[.pointer (some ⟨rb, 0, none⟩), .int .i64 4] w fun e w' => ∃ (v : Nat) (l' : List UInt8) (bad : Bool), e = .returned (.int .u64 v) ∧ RB w' rb l' o bad off ∧ Fr (· = rb) w w' ∧ Bn.cut 4 lit l = (if bad = true then none else some (v, l')) ∧ v < 4294967296 ∧ l'.length ≤ 6000 := by
 by_cases h : l.length < 4
 ·exact (rnum_bad 4 l o off false rb w hr (.inr h) hl (by omega)).mono fun e w' ⟨he, h1, u1⟩ => ⟨0, l, true, he, h1, u1, by rw [Bn.cut_none h]; rfl, by omega, hl⟩
 ·exact (rnum_ok 4 l o off rb w hr h hl (by omega) lit hlit).mono fun e w' ⟨he, h1, u1⟩ => ⟨_, _, false, he, h1, u1, by rw [Bn.cut_some h]; rfl, Bn.num_lt4 (by rw [List.length_take]; omega), by simp; omega⟩
def CoP (lit : Bool) (l : List UInt8) (bad off : Bool) (x : Int) (l' : List UInt8) (bad' off' : Bool) : Prop :=
 (bad' = true ∧ (bad = true ∨ l.length < 8)) ∨ (bad' = false ∧ bad = false ∧ ¬ l.length < 8 ∧ x = Bn.coord (Bn.num lit (l.take 8)) ∧ l' = l.drop 8 ∧ off' = (off || (Bn.units (Bn.num lit (l.take 8))).isNone))
theorem rcoord_any (lit : Bool) (l : List UInt8) (o : Nat) (bad off : Bool) (rb : Nat) (w : World) (hr : RB w rb l o bad off) (hl : l.length ≤ 6000) (hlit : lit = ((o : Int) == 1)) :
  Calls Tryz.prog 142 #[.pointer (some ⟨rb, 0, none⟩)] w fun e w' => ∃ (x : Int) (l' : List UInt8) (bad' off' : Bool), e = .returned (.int .i64 x) ∧ RB w' rb l' o bad' off' ∧ Fr (· = rb) w w' ∧ CoP lit l bad off x l' bad' off' ∧ l'.length ≤ 6000 := by
 by_cases h : bad = true ∨ l.length < 8
 ·exact (rcoord_bad l o off bad rb w hr h hl).mono fun e w' ⟨he, h1, u1⟩ => ⟨0, l, true, off, he, h1, u1, .inl ⟨rfl, h⟩, hl⟩
 ·have hb : bad = false := by cases bad <;> simp_all
  subst hb
  have h8 : ¬ l.length < 8 := fun e => h (.inr e)
  exact (rcoord_ok l o off rb w hr h8 hl lit hlit).mono fun e w' ⟨he, h1, u1⟩ => ⟨_, _, false, _, he, h1, u1, .inr ⟨rfl, rfl, h8, rfl, rfl, rfl⟩, by simp; omega⟩
theorem CoP.two {lit : Bool} {l l1 l2 : List UInt8} {off o1 o2 b1 b2 : Bool} {x y : Int} (h : CoP lit l false off x l1 b1 o1) (k : CoP lit l1 b1 o1 y l2 b2 o2) :
  Bn.point lit l off = (if b2 = true then none else some ((x, y), l2, o2)) ∧ (b2 = false → l2.length + 1 ≤ l.length) := by
 unfold Bn.point
 rcases h with ⟨rfl, h⟩ | ⟨rfl, -, h8, rfl, rfl, rfl⟩
 ·rcases h with h | h
  ·cases h
  ·rcases k with ⟨rfl, -⟩ | ⟨-, k, -⟩
   ·rw [if_pos (by omega)]; exact ⟨rfl, fun e => by cases e⟩
   ·cases k
 ·rcases k with ⟨rfl, k⟩ | ⟨rfl, -, k8, rfl, rfl, rfl⟩
  ·rcases k with k | k
   ·cases k
   ·rw [List.length_drop] at k
    rw [if_pos (by omega)]; exact ⟨rfl, fun e => by cases e⟩
  ·rw [List.length_drop] at k8
   rw [if_neg (by omega), List.drop_drop]
   exact ⟨rfl, fun _ => by simp; omega⟩
namespace Bn
theorem go_on {α : Type} {f : List UInt8 → Bool → Res α} {T : Res (List α)} {acc : List α} {n : Nat} {l t : List UInt8} {o o' b : Bool} {a : α} (hT : T = pre acc (many f (n + 1) l o)) (hf : f l o = if b = true then none else some (a, t, o')) : T = if b = true then none else pre (acc ++ [a]) (many f n t o') := by
 cases b
 ·rw [hT, many_some acc hf]; rfl
 ·rw [hT, many_none acc hf]; rfl
end Bn
set_option maxRecDepth 100000 in
set_option maxHeartbeats 4000000 in
theorem rring_any (lit : Bool) (l : List UInt8) (o : Nat) (off : Bool) (rb : Nat) (w : World) (hr : RB w rb l o false off) (hl : l.length ≤ 6000) (hlit : lit = ((o : Int) == 1)) :
  Calls Tryz.prog 115 #[.pointer (some ⟨rb, 0, none⟩)] w fun e w' => ∃ (x : L1) (l' : List UInt8) (bad off' : Bool), e = .returned x.v ∧ x.ok w' ∧ RB w' rb l' o bad off' ∧ Fr (· = rb) w w' ∧ Bn.ring lit l off = (if bad = true then none else some (x.r, l', off')) ∧ l'.length ≤ 6000 := by
 have HR := hide hr
 have HL := hide hlit
 have hrl := VRow.lt hr
 clear hr hlit
 go_enter Tryz.func115, Tryz.ntmps115
 go_wp2_with fail
 refine (rcut_any lit l o off rb _ HR.out hl HL.out).mono ?_
 rintro e w1 ⟨N, l1, bad1, rfl, h1, u1, hcut, hN, hl1⟩
 have HQ : Hid (Bn.ring lit l off = if bad1 = true then none else Bn.pre [] (Bn.many (Bn.point lit) N l1 off)) := by
  show _ = _
  unfold Bn.ring
  rw [hcut]
  cases bad1
  ·show Bn.many (Bn.point lit) N l1 off = _
   rw [Bn.pre_nil]; rfl
  ·rfl
 replace h1 := hide h1
 replace u1 := hide u1
 clear hcut
 go_wp2_with fail
 go_loopw [3, 5] (fun v i wr => ∃ (k : Nat) (r : Ring) (l' : List UInt8) (bad off' : Bool) (u : Value), k ≤ N ∧ i = .int .u64 k ∧ u = v ∧ Hid (wr.ownsRow w.heap.size 48 2 u r.length (flat r)) ∧ Hid (RB wr rb l' o bad off') ∧ Hid (Fr (· = rb) w wr) ∧ r.length ≤ 6001 ∧ l'.length ≤ 6000 ∧ Hid (bad = false → r.length + l'.length ≤ 6000) ∧ Hid (Bn.ring lit l off = if bad = true then none else Bn.pre r (Bn.many (Bn.point lit) (N - k) l' off'))) (fun _ i _ => N - (intOf i).toNat)
 case atStart => exact ⟨0, [], l1, bad1, off, _, Nat.zero_le _, rfl, rfl, World.ownsRow_nil _ _ _ _, h1, u1, by simp, hl1, fun _ => by simpa using hl1, HQ⟩
 case round =>
  obtain ⟨k, r, l2, bad2, off2, v, hk, rfl, rfl, HO, HB, HF, hr2, hl2, HS, HT⟩ := hrel
  have c2 := HB.out.c2
  by_cases hlt : k < N
  ·cases bad2
   ·have hsum := HS.out rfl
    have HT2 : Hid (Bn.ring lit l off = Bn.pre r (Bn.many (Bn.point lit) (N - (k + 1) + 1) l2 off2)) := by
     rw [HT.out, show N - k = N - (k + 1) + 1 by omega]; exact rfl
    clear HS HT
    go_wp2_with fail
    refine (rcoord_any lit l2 o false off2 rb _ HB.out hl2 HL.out).mono ?_
    rintro e w3 ⟨x, l3, b3, o3, rfl, h3, u3, p3, hl3⟩
    replace h3 := hide h3
    replace u3 := hide u3
    replace p3 := hide p3
    go_wp2_with fail
    refine (rcoord_any lit l3 o b3 o3 rb _ h3.out hl3 HL.out).mono ?_
    rintro e w4 ⟨y, l4, b4, o4, rfl, h4, u4, p4, hl4⟩
    have hp := hide (p3.out.two p4)
    have HU : Hid (Fr (· = rb) wr w4) := u3.out.trans u4
    have HO4 : Hid (w4.ownsRow w.heap.size 48 2 v r.length (flat r)) := own_fr HO.out HU.out fun g hg e => own_row_ne HO.out HB.out (by decide) (e ▸ hg)
    replace h4 := hide h4
    replace p4 := hide p4
    have HOA := hide (HO4.out.alloc (.cells #[.int .i64 x, .int .i64 y] 48))
    have hrb : Hid (r.length ≤ 1073741824) := by show _ ≤ _; omega
    have hsz := hide (HF.out.trans HU.out).size
    clear u4 c2
    go_wp2_with (at_builtin; refine wpList_app el_pt rfl (.tmp 26) (.tmp 30) rfl w.heap.size _ _ _ (by rfl) HOA.out w4.heap.size [.int .i64 x, .int .i64 y] (by rfl) rfl (heap_alloc_new w4 _) (by intro u hu; simp at hu; rcases hu with rfl | rfl <;> rfl) hrb.out (by simp; have := hsz.out; omega) ?_; intro g cap w5 hown5 hg5 hat5 hlt5; replace hown5 := hide hown5; replace hg5 := hide hg5; clear hat5 hlt5)
    go_roundw
    case rel =>
     refine ⟨k + 1, r ++ [(x, y)], l4, b4, o4, _, by omega, by go_num, rfl, ?_, ?_, ?_, by simp; omega, hl4, ?_, ?_⟩
     ·rw [flat_append, List.length_append]; exact hown5.out
     ·exact VRow.grown (VRow.alloc h4.out _) hg5.out (own_row_ne HOA.out (VRow.alloc h4.out _) (by decide))
     ·exact ((HF.out.trans HU.out).alloc _).grown hg5.out fun k hk => .inr (own_lt HO.out hk).1
     ·intro e
      have := hp.out.2 e
      simp; omega
     ·exact Bn.go_on HT2.out hp.out.1
    case measure => simp [intOf]; omega
   ·have HT2 : Hid (Bn.ring lit l off = none) := HT.out
    clear HS HT
    go_wp2
    go_ret
    exact ⟨⟨v, r⟩, l2, true, off2, rfl, own_base HO.out (Nat.zero_le _), HB.out, HF.out, HT2.out, hl2⟩
  ·have hkN : N - k = 0 := by omega
   rw [hkN] at HT
   go_wp2
   go_ret
   exact ⟨⟨v, r⟩, l2, bad2, off2, rfl, own_base HO.out (Nat.zero_le _), HB.out, HF.out, by rw [HT.out]; cases bad2 <;> simp [Bn.many_zero], hl2⟩
set_option maxRecDepth 100000 in
set_option maxHeartbeats 4000000 in
theorem rpoly_any (l : List UInt8) (o0 : Nat) (off : Bool) (rb : Nat) (w : World) (hr : RB w rb l o0 false off) (hl : l.length ≤ 6000) :
  Calls Tryz.prog 76 #[.pointer (some ⟨rb, 0, none⟩)] w fun e w' => ∃ (x : L2) (l' : List UInt8) (o : Nat) (bad off' : Bool), e = .returned x.v ∧ x.ok w' ∧ RB w' rb l' o bad off' ∧ Fr (· = rb) w w' ∧ Bn.poly l off = (if bad = true then none else some (x.pts, l', off')) ∧ l'.length ≤ 6000 := by
 have HR := hide hr
 clear hr
 go_enter Tryz.func76, Tryz.ntmps76
 go_wp2_with fail
 refine (rgeom_any 3 (by omega) (by omega) l o0 off rb _ HR.out hl).mono ?_
 rintro e w1 ⟨N, l1, o1, bad1, rfl, h1, u1, hcut, hN, hl1⟩
 have HQ : Hid (Bn.poly l off = if bad1 = true then none else Bn.pre [] (Bn.many (Bn.ring ((o1 : Int) == 1)) N l1 off)) := by
  show _ = _
  unfold Bn.poly
  rw [hcut]
  cases bad1
  ·show Bn.many (Bn.ring ((o1 : Int) == 1)) N l1 off = _
   rw [Bn.pre_nil]; rfl
  ·rfl
 replace h1 := hide h1
 replace u1 := hide u1
 clear hcut
 go_wp2_with fail
 go_loopw [3, 5] (fun v i wr => ∃ (k : Nat) (rs : List L1) (l' : List UInt8) (o : Nat) (bad off' : Bool) (u : Value), k ≤ N ∧ i = .int .u64 k ∧ u = v ∧ Hid (wr.ownsRow w.heap.size 46 1 u rs.length (rs.map L1.v)) ∧ Hid (∀ y ∈ rs, y.ok wr) ∧ Hid (RB wr rb l' o bad off') ∧ Hid (Fr (· = rb) w wr) ∧ rs.length ≤ 6001 ∧ l'.length ≤ 6000 ∧ Hid (bad = false → rs.length + l'.length ≤ 6000) ∧ Hid (Bn.poly l off = if bad = true then none else Bn.pre (rs.map L1.r) (Bn.many (Bn.ring ((o1 : Int) == 1)) (N - k) l' off')) ∧ Hid (o = o1)) (fun _ i _ => N - (intOf i).toNat)
 case atStart => exact ⟨0, [], l1, o1, bad1, off, _, Nat.zero_le _, rfl, rfl, World.ownsRow_nil _ _ _ _, by simp [Hid], h1, u1, by simp, hl1, fun _ => by simpa using hl1, HQ, rfl⟩
 case round =>
  obtain ⟨k, rs, l2, o2, bad2, off2, v, hk, rfl, rfl, HO, HY, HB, HF, hr2, hl2, HS, HT, HK⟩ := hrel
  have c2 := HB.out.c2
  by_cases hlt : k < N
  ·cases bad2
   ·have hsum := HS.out rfl
    have HT2 : Hid (Bn.poly l off = Bn.pre (rs.map L1.r) (Bn.many (Bn.ring ((o1 : Int) == 1)) (N - (k + 1) + 1) l2 off2)) := by
     rw [HT.out, show N - k = N - (k + 1) + 1 by omega]; exact rfl
    clear HS HT
    go_wp2_with fail
    refine (rring_any ((o1 : Int) == 1) l2 o2 off2 rb _ HB.out hl2 (by rw [HK.out])).mono ?_
    rintro e w4 ⟨⟨xv, xr⟩, l4, b4, o4, rfl, hx, h4, u4, p4, hl4⟩
    obtain ⟨xa, xn, xc, rfl⟩ : ∃ a n c, xv = .slice a n c := own_shape hx
    have HO4 : Hid (w4.ownsRow w.heap.size 46 1 v rs.length (rs.map L1.v)) := own_fr HO.out u4 fun g hg e => own_row_ne HO.out HB.out (by decide) (e ▸ hg)
    have HY4 : Hid (∀ y ∈ rs, y.ok w4) := fun y hy => (HY.out y hy).fr u4 fun b hb e => (HY.out y hy).row_ne HB.out (by decide) (e ▸ hb)
    have HU := hide u4
    replace h4 := hide h4
    replace hx := hide hx
    replace p4 := hide p4
    have HOA := hide (HO4.out.alloc (.cells #[.slice xa xn xc] 46))
    have hrb : Hid (rs.length ≤ 1073741824) := by show _ ≤ _; omega
    have hsz := hide (HF.out.trans HU.out).size
    clear u4 c2
    go_wp2_with (at_builtin; refine wpList_app el_rings rfl (.tmp 23) (.tmp 25) rfl w.heap.size _ _ _ (by rfl) HOA.out w4.heap.size [.slice xa xn xc] (by rfl) rfl (heap_alloc_new w4 _) (by intro u hu; simp at hu; subst hu; rfl) hrb.out (by simp; have := hsz.out; omega) ?_; intro g cap w5 hown5 hg5 hat5 hlt5; replace hown5 := hide hown5; replace hg5 := hide hg5; clear hat5 hlt5)
    go_roundw
    case rel =>
     refine ⟨k + 1, rs ++ [⟨.slice xa xn xc, xr⟩], l4, o2, b4, o4, _, by omega, by go_num, rfl, ?_, ?_, ?_, ?_, by simp; omega, hl4, ?_, ?_, HK⟩
     ·rw [List.map_append, List.length_append]; exact hown5.out
     ·intro y hy
      have hA := (Up.refl w4).alloc (.cells #[.slice xa xn xc] 46)
      rcases List.mem_append.1 hy with hy | hy
      ·exact ((HY4.out y hy).up hA).grown HOA.out (by decide) hg5.out
      ·simp at hy; subst hy
       exact (hx.out.up hA).grown HOA.out (by decide) hg5.out
     ·exact VRow.grown (VRow.alloc h4.out _) hg5.out (own_row_ne HOA.out (VRow.alloc h4.out _) (by decide))
     ·exact ((HF.out.trans HU.out).alloc _).grown hg5.out fun k hk => .inr (own_lt HO.out hk).1
     ·intro e
      subst e
      have := (Bn.ring_lt p4.out).1
      simp; omega
     ·rw [List.map_append]
      exact Bn.go_on HT2.out p4.out
    case measure => simp [intOf]; omega
   ·have HT2 : Hid (Bn.poly l off = none) := HT.out
    clear HS HT
    go_wp2
    go_ret
    exact ⟨⟨v, rs⟩, l2, o2, true, off2, rfl, ⟨own_base HO.out (Nat.zero_le _), HY.out⟩, HB.out, HF.out, HT2.out, hl2⟩
  ·have hkN : N - k = 0 := by omega
   rw [hkN] at HT
   go_wp2
   go_ret
   exact ⟨⟨v, rs⟩, l2, o2, bad2, off2, rfl, ⟨own_base HO.out (Nat.zero_le _), HY.out⟩, HB.out, HF.out, by rw [HT.out]; cases bad2 <;> simp [Bn.many_zero, L2.pts], hl2⟩
set_option maxRecDepth 100000 in
set_option maxHeartbeats 4000000 in
theorem rset_any (l : List UInt8) (o0 : Nat) (off : Bool) (rb : Nat) (w : World) (hr : RB w rb l o0 false off) (hl : l.length ≤ 6000) (hoff : off = false) :
  Calls Tryz.prog 56 #[.pointer (some ⟨rb, 0, none⟩)] w fun e w' => ∃ (x : L3) (l' : List UInt8) (o : Nat) (bad off' : Bool), e = .returned x.v ∧ x.ok w' ∧ RB w' rb l' o bad off' ∧ Fr (· = rb) w w' ∧ Bn.set l = (if bad = true then none else some (x.m, l', off')) ∧ l'.length ≤ 6000 := by
 have HR := hide hr
 clear hr
 go_enter Tryz.func56, Tryz.ntmps56
 go_wp2_with fail
 refine (rgeom_any 6 (by omega) (by omega) l o0 off rb _ HR.out hl).mono ?_
 rintro e w1 ⟨N, l1, o1, bad1, rfl, h1, u1, hcut, hN, hl1⟩
 have HQ : Hid (Bn.set l = if bad1 = true then none else Bn.pre [] (Bn.many Bn.poly N l1 off)) := by
  show _ = _
  unfold Bn.set
  rw [hcut]
  cases bad1
  ·show Bn.many Bn.poly N l1 false = _
   rw [Bn.pre_nil, hoff]; rfl
  ·rfl
 replace h1 := hide h1
 replace u1 := hide u1
 clear hcut
 go_wp2_with fail
 go_loopw [3, 5] (fun v i wr => ∃ (k : Nat) (rs : List L2) (l' : List UInt8) (o : Nat) (bad off' : Bool) (u : Value), k ≤ N ∧ i = .int .u64 k ∧ u = v ∧ Hid (wr.ownsRow w.heap.size 45 1 u rs.length (rs.map L2.v)) ∧ Hid (∀ y ∈ rs, y.ok wr) ∧ Hid (RB wr rb l' o bad off') ∧ Hid (Fr (· = rb) w wr) ∧ rs.length ≤ 6001 ∧ l'.length ≤ 6000 ∧ Hid (bad = false → rs.length + l'.length ≤ 6000) ∧ Hid (Bn.set l = if bad = true then none else Bn.pre (rs.map L2.pts) (Bn.many Bn.poly (N - k) l' off')) ∧ Hid (True)) (fun _ i _ => N - (intOf i).toNat)
 case atStart => exact ⟨0, [], l1, o1, bad1, off, _, Nat.zero_le _, rfl, rfl, World.ownsRow_nil _ _ _ _, by simp [Hid], h1, u1, by simp, hl1, fun _ => by simpa using hl1, HQ, trivial⟩
 case round =>
  obtain ⟨k, rs, l2, o2, bad2, off2, v, hk, rfl, rfl, HO, HY, HB, HF, hr2, hl2, HS, HT, HK⟩ := hrel
  have c2 := HB.out.c2
  by_cases hlt : k < N
  ·cases bad2
   ·have hsum := HS.out rfl
    have HT2 : Hid (Bn.set l = Bn.pre (rs.map L2.pts) (Bn.many Bn.poly (N - (k + 1) + 1) l2 off2)) := by
     rw [HT.out, show N - k = N - (k + 1) + 1 by omega]; exact rfl
    clear HS HT
    go_wp2_with fail
    refine (rpoly_any l2 o2 off2 rb _ HB.out hl2).mono ?_
    rintro e w4 ⟨⟨xv, xr⟩, l4, o3, b4, o4, rfl, hx, h4, u4, p4, hl4⟩
    obtain ⟨xa, xn, xc, rfl⟩ : ∃ a n c, xv = .slice a n c := own_shape hx.row
    have HO4 : Hid (w4.ownsRow w.heap.size 45 1 v rs.length (rs.map L2.v)) := own_fr HO.out u4 fun g hg e => own_row_ne HO.out HB.out (by decide) (e ▸ hg)
    have HY4 : Hid (∀ y ∈ rs, y.ok w4) := fun y hy => (HY.out y hy).fr u4 fun b hb e => (HY.out y hy).row_ne HB.out (by decide) (by decide) (e ▸ hb)
    have HU := hide u4
    replace h4 := hide h4
    replace hx := hide hx
    replace p4 := hide p4
    have HOA := hide (HO4.out.alloc (.cells #[.slice xa xn xc] 45))
    have hrb : Hid (rs.length ≤ 1073741824) := by show _ ≤ _; omega
    have hsz := hide (HF.out.trans HU.out).size
    clear u4 c2
    go_wp2_with (at_builtin; refine wpList_app el_polys rfl (.tmp 23) (.tmp 25) rfl w.heap.size _ _ _ (by rfl) HOA.out w4.heap.size [.slice xa xn xc] (by rfl) rfl (heap_alloc_new w4 _) (by intro u hu; simp at hu; subst hu; rfl) hrb.out (by simp; have := hsz.out; omega) ?_; intro g cap w5 hown5 hg5 hat5 hlt5; replace hown5 := hide hown5; replace hg5 := hide hg5; clear hat5 hlt5)
    go_roundw
    case rel =>
     refine ⟨k + 1, rs ++ [⟨.slice xa xn xc, xr⟩], l4, o3, b4, o4, _, by omega, by go_num, rfl, ?_, ?_, ?_, ?_, by simp; omega, hl4, ?_, ?_, trivial⟩
     ·rw [List.map_append, List.length_append]; exact hown5.out
     ·intro y hy
      have hA := (Up.refl w4).alloc (.cells #[.slice xa xn xc] 45)
      rcases List.mem_append.1 hy with hy | hy
      ·exact ((HY4.out y hy).up hA).grown HOA.out (by decide) (by decide) hg5.out
      ·simp at hy; subst hy
       exact (hx.out.up hA).grown HOA.out (by decide) (by decide) hg5.out
     ·exact VRow.grown (VRow.alloc h4.out _) hg5.out (own_row_ne HOA.out (VRow.alloc h4.out _) (by decide))
     ·exact ((HF.out.trans HU.out).alloc _).grown hg5.out fun k hk => .inr (own_lt HO.out hk).1
     ·intro e
      subst e
      have := (Bn.poly_lt p4.out).1
      simp; omega
     ·rw [List.map_append]
      exact Bn.go_on HT2.out p4.out
    case measure => simp [intOf]; omega
   ·have HT2 : Hid (Bn.set l = none) := HT.out
    clear HS HT
    go_wp2
    go_ret
    exact ⟨⟨v, rs⟩, l2, o2, true, off2, rfl, ⟨own_base HO.out (Nat.zero_le _), HY.out⟩, HB.out, HF.out, HT2.out, hl2⟩
  ·have hkN : N - k = 0 := by omega
   rw [hkN] at HT
   go_wp2
   go_ret
   exact ⟨⟨v, rs⟩, l2, o2, bad2, off2, rfl, ⟨own_base HO.out (Nat.zero_le _), HY.out⟩, HB.out, HF.out, by rw [HT.out]; cases bad2 <;> simp [Bn.many_zero, L3.m], hl2⟩
set_option maxHeartbeats 1000000 in
theorem isFormat_any (f : Int) (w : World) (hf : f = 0 ∨ f = 1 ∨ f = 2) :
  Calls Tryz.prog 29 #[.int .i64 f] w fun e w' => e = .returned (.bool true) ∧ w' = w := by
 rcases hf with rfl | rfl | rfl
 all_goals
  go_enter Tryz.func29, Tryz.ntmps29
  go_wp2
  go_ret
  exact ⟨rfl, rfl⟩
def ReadPost (E : Int) (M : Mult) (w : World) (e : Ending) (w' : World) : Prop :=
 ∃ X : L3, e = .returned (.tuple #[X.v, .int .i64 E]) ∧ X.ok w' ∧ (E = 0 → X.m = M) ∧ Up w w'
set_option maxHeartbeats 1000000 in
theorem dec_bad (f : Int) (l : List UInt8) (w : World) (hf : f = 0 ∨ f = 1 ∨ f = 2) (hl : l.length ≤ 6000) (E : Int) (M : Mult) (hE : E ≠ 0)
  (hread : ∀ w, Calls Tryz.prog 30 #[.int .i64 f, .string (bs l)] w (ReadPost E M w)) :
  Calls Tryz.prog 15 #[.int .i64 f, .string (bs l)] w fun e w' => e = .returned (.tuple #[.pointer none, .int .i64 E]) ∧ Up w w' := by
 have e0 := bs_size l
 have HF := hide hf
 have HR := hide hread
 have hE' : (E != 0) = true := bne_iff_ne.2 hE
 clear hf hread
 go_enter Tryz.func15, Tryz.ntmps15
 go_wp2_with (first
  | (go_at_call 29; refine (isFormat_any _ _ HF.out).mono ?_; rintro e w1 ⟨rfl, rfl⟩)
  | (go_at_call 30; refine (HR.out _).mono ?_; rintro e w2 ⟨X, rfl, -, -, u2⟩; replace u2 := hide u2))
 go_ret2
 exact ⟨rfl, u2.out⟩
set_option maxHeartbeats 1000000 in
theorem dec_form (f : Int) (l : List UInt8) (w : World) (hf : f = 0 ∨ f = 1 ∨ f = 2) (hl : l.length ≤ 6000) (M : Mult) (hb : Pl.Bd M) (hw : Pl.wrong M ≠ 0)
  (hread : ∀ w, Calls Tryz.prog 30 #[.int .i64 f, .string (bs l)] w (ReadPost 0 M w)) :
  Calls Tryz.prog 15 #[.int .i64 f, .string (bs l)] w fun e w' => e = .returned (.tuple #[.pointer none, .int .i64 (Pl.wrong M)]) ∧ Up w w' := by
 have e0 := bs_size l
 have HF := hide hf
 have HR := hide hread
 have HB := hide hb
 have HW := hide hw
 clear hf hread hb hw
 go_enter Tryz.func15, Tryz.ntmps15
 go_wp2_with (first
  | (go_at_call 29; refine (isFormat_any _ _ HF.out).mono ?_; rintro e w1 ⟨rfl, rfl⟩)
  | (go_at_call 30; refine (HR.out _).mono ?_; rintro e w2 ⟨X, rfl, hx, hm, u2⟩; have hrd := hide (hm rfl ▸ hx.rd); replace u2 := hide u2; clear hx hm)
  | (go_at_call 25; refine (make_bad _ M _ hrd.out HB.out HW.out).mono ?_; rintro e w3 ⟨rfl, u3⟩; replace u3 := hide u3))
 go_ret2
 exact ⟨rfl, u2.out.trans u3.out⟩
set_option maxHeartbeats 1000000 in
theorem dec_ok (f : Int) (l : List UInt8) (w : World) (hf : f = 0 ∨ f = 1 ∨ f = 2) (hl : l.length ≤ 6000) (M : Mult) (hb : Pl.Bd M) (hw : Pl.wrong M = 0)
  (hread : ∀ w, Calls Tryz.prog 30 #[.int .i64 f, .string (bs l)] w (ReadPost 0 M w)) :
  Calls Tryz.prog 15 #[.int .i64 f, .string (bs l)] w fun e w' => ∃ p b d, e = .returned (.tuple #[p, .int .i64 0]) ∧ Set3 w' p M b d ∧ (∀ x ∈ b :: d.bl, w.heap.size ≤ x) ∧ Up w w' := by
 have e0 := bs_size l
 have HF := hide hf
 have HR := hide hread
 have HB := hide hb
 have HW := hide hw
 clear hf hread hb hw
 go_enter Tryz.func15, Tryz.ntmps15
 go_wp2_with (first
  | (go_at_call 29; refine (isFormat_any _ _ HF.out).mono ?_; rintro e w1 ⟨rfl, rfl⟩)
  | (go_at_call 30; refine (HR.out _).mono ?_; rintro e w2 ⟨X, rfl, hx, hm, u2⟩; have hrd := hide (hm rfl ▸ hx.rd); replace u2 := hide u2; clear hx hm)
  | (go_at_call 25; refine (make_ok _ M _ hrd.out HB.out HW.out).mono ?_; rintro e w3 ⟨p, b, d, rfl, h1, h2, u3⟩; replace h1 := hide h1; replace h2 := hide h2; replace u3 := hide u3))
 go_ret2
 exact ⟨p, b, d, rfl, h1.out, fun x hx => Nat.le_trans u2.out.size (h2.out x hx), u2.out.trans u3.out⟩
namespace Bn
def got (l : List UInt8) : Mult := match set l with
 | none => []
 | some x => x.1
theorem err_none {l : List UInt8} (h : set l = none) : err l = 3 := by unfold err; rw [h]
theorem err_some {l t : List UInt8} {m : Mult} {o : Bool} (h : set l = some (m, t, o)) : err l = if t ≠ [] then 3 else if o = true then 4 else 0 := by unfold err; rw [h]
theorem got_some {l t : List UInt8} {m : Mult} {o : Bool} (h : set l = some (m, t, o)) : got l = m := by unfold got; rw [h]
theorem got_ok {l : List UInt8} (hl : l.length ≤ 6000) : okM (got l) := by
 unfold got
 cases h : set l with
 | none => exact ⟨by simp, by simp⟩
 | some x => exact set_ok h hl
end Bn
set_option maxHeartbeats 1000000 in
theorem bRead_any (l : List UInt8) (w : World) (hl : l.length ≤ 6000) :
    Calls Tryz.prog 41 #[.string (bs l)] w (ReadPost (Bn.err l) (Bn.got l) w) := by
  have hnew := VRow.new w [.string (bs l), .int .u64 (0 : Nat), .bool false, .bool false] 83
  have HS := hide (rset_any l 0 false w.heap.size _ hnew hl rfl)
  clear hnew
  unfold ReadPost
  go_enter Tryz.func41, Tryz.ntmps41
  go_wp2_with fail
  refine HS.out.mono ?_
  rintro e w1 ⟨⟨xv, ps⟩, t, o, bad, off, rfl, hx, h1, u1, hp, ht⟩
  obtain ⟨xa, xn, xc, rfl⟩ : ∃ a n c, xv = .slice a n c := own_shape hx.row
  have c0 := h1.c0
  have c2 := h1.c2
  have c3 := h1.c3
  have e0 := bs_size t
  have HX := hide hx
  have HU : Hid (Up w w1) := ((Fr.of_up ((Up.refl w).alloc _)).then u1 (T := (· = w.heap.size)) (S := fun x => w.heap.size ≤ x) (fun x _ e => by omega)).up (fun x hx => by omega)
  have HP := hide hp
  clear hx h1 u1 hp
  cases bad
  · have HQ : Hid (Bn.set l = some (L3.m ⟨.slice xa xn xc, ps⟩, t, off)) := HP.out
    have HE := hide (Bn.err_some HQ.out)
    have HG := hide (Bn.got_some HQ.out)
    cases t with
    | nil =>
      cases off
      · go_wp2
        go_ret2
        exact ⟨⟨.slice xa xn xc, ps⟩, by rw [HE.out]; rfl, HX.out, fun _ => HG.out.symm, HU.out⟩
      · go_wp2
        go_ret2
        exact ⟨nil3, by rw [HE.out]; rfl, nil3_ok _, (fun e => by rw [HE.out] at e; cases e), HU.out⟩
    | cons a s =>
      have e1 : (0 : Int) < ((a :: s).length : Int) := by simp only [List.length_cons]; omega
      go_wp2
      go_ret2
      exact ⟨nil3, by rw [HE.out]; rfl, nil3_ok _, (fun e => by rw [HE.out] at e; cases e), HU.out⟩
  · have HE := hide (Bn.err_none (l := l) HP.out)
    go_wp2
    go_ret2
    exact ⟨nil3, by rw [HE.out]; rfl, nil3_ok _, (fun e => by rw [HE.out] at e; cases e), HU.out⟩
set_option maxHeartbeats 1000000 in
theorem read1_any (l : List UInt8) (w : World) (hl : l.length ≤ 6000) :
  Calls Tryz.prog 30 #[.int .i64 1, .string (bs l)] w (ReadPost (Bn.err l) (Bn.got l) w) := by
 unfold ReadPost
 go_enter Tryz.func30, Tryz.ntmps30
 go_wp2_with (go_at_call 41; refine (bRead_any l _ hl).mono ?_; rintro e w1 ⟨X, rfl, h⟩; replace h := hide h)
 go_ret2
 exact ⟨X, rfl, h.out⟩
set_option maxHeartbeats 400000 in
theorem wisBlank_any (x : Int) (w : World) :
  Calls Tryz.prog 124 #[.int .u8 x] w fun e w' => e = .returned (.bool (Tx.blank x)) ∧ w' = w := by
 unfold Tx.blank
 go_enter Tryz.func124, Tryz.ntmps124
 go_wp2
 all_goals
  go_ret
  exact ⟨by simp [*], rfl⟩
set_option maxHeartbeats 1000000 in
theorem digitsLength_any (l : List UInt8) (w : World) (hl : l.length ≤ 9223372036854775807) :
  Calls Tryz.prog 156 #[.string (bs l)] w fun e w' => e = .returned (.int .i64 (Tx.lead l : Nat)) ∧ w' = w := by
 obtain ⟨e0, e1, e2, e3, e4, e5⟩ := bs_tells l
 clear e2 e3 e4 e5
 generalize bs l = S at e0 e1 ⊢
 go_enter Tryz.func156, Tryz.ntmps156
 go_wp2
 go_loop [3] (fun s => ∃ n : Nat, n ≤ l.length ∧ s = .int .i64 n ∧ Tx.lead l = n + Tx.lead (l.drop n)) (fun s => l.length - (intOf s).toNat)
 case atStart => exact ⟨0, Nat.zero_le _, rfl, by simp⟩
 case round =>
  obtain ⟨n, hk, rfl, hb⟩ := hrel
  by_cases hn : n < l.length
  ·have HB : Hid (Tx.lead l = _) := Tx.lead_drop hn hb
   clear hb
   by_cases h1 : 48 ≤ Tx.at_ l n
   ·by_cases h2 : Tx.at_ l n ≤ 57
    ·have hd : Hid (Tx.digit (Tx.at_ l n) = true) := by simp [Hid, Tx.digit, h1, h2]
     go_wp2
     go_round
     case rel => exact ⟨n + 1, by omega, by go_num, by rw [HB.out, if_pos hd.out]⟩
     case measure => simp [intOf]; omega
    ·have hd : Hid (Tx.digit (Tx.at_ l n) = false) := by simp [Hid, Tx.digit, h1, h2]
     go_wp2
     go_ret
     exact ⟨by rw [HB.out, hd.out]; rfl, rfl⟩
   ·have hd : Hid (Tx.digit (Tx.at_ l n) = false) := by simp [Hid, Tx.digit, h1]
    go_wp2
    go_ret
    exact ⟨by rw [HB.out, hd.out]; rfl, rfl⟩
  ·have HB : Hid (Tx.lead l = n) := Tx.lead_end hn hb
   clear hb
   go_wp2
   go_ret
   exact ⟨by rw [HB.out]; rfl, rfl⟩
namespace Du
def scan : List UInt8 → List Nat → Int → List Nat × Int × List UInt8
 | [], d, p => (d, p, [])
 | c :: t, d, p => if c.toNat = 101 ∨ c.toNat = 69 then (d, p, c :: t) else scan t (if Tx.digit c.toNat = true then d ++ [c.toNat - 48] else d) (if c.toNat = 46 then (d.length : Int) else p)
def capD : List UInt8 → Nat → Nat
 | [], e => e
 | c :: t, e => capD t (if Tx.digit c.toNat = true ∧ e < 100000 then 10 * e + (c.toNat - 48) else e)
def sumD (q : Int) : List Nat → Nat → Nat → Option Nat
 | [], _, v => some v
 | d :: t, k, v => if d = 0 then sumD q t (k + 1) v else if q - 1 - k < -4 ∨ 4 < q - 1 - k then none else sumD q t (k + 1) (v + d * 10 ^ (q - 1 - k + 4).toNat)
def fin (v : Nat) : Option Nat := if v % 625 ≠ 0 ∨ 32768 < v / 625 then none else some (v / 625)
def place (s : List Nat × Int × List UInt8) : Int := (if s.2.1 < 0 then (s.1.length : Int) else s.2.1) + (if Tx.at_ s.2.2 1 = 45 then -(capD s.2.2 0 : Int) else (capD s.2.2 0 : Int))
def units (l : List UInt8) : Option Nat := (sumD (place (scan l [] (-1))) (scan l [] (-1)).1 0 0).bind fin
theorem fin_bad {v : Nat} (h : v % 625 ≠ 0 ∨ 32768 < v / 625) : fin v = none := by unfold fin; rw [if_pos h]
end Du
namespace Tx
def sgn (p : Bool) (l : List UInt8) (n : Nat) : Nat := if at_ l n = 45 ∨ (p = true ∧ at_ l n = 43) then 1 else 0
def num3 (l : List UInt8) (n : Nat) : Nat :=
 if at_ l n = 101 ∨ at_ l n = 69 then
  if lead (l.drop (n + 1 + sgn true l (n + 1))) = 0 then 0 else n + 1 + sgn true l (n + 1) + lead (l.drop (n + 1 + sgn true l (n + 1)))
 else n
def num2 (l : List UInt8) (n : Nat) : Nat :=
 if at_ l n = 46 then if lead (l.drop (n + 1)) = 0 then 0 else num3 l (n + 1 + lead (l.drop (n + 1)))
 else num3 l n
def num1 (p : Bool) (l : List UInt8) (n : Nat) : Nat :=
 if lead (l.drop n) = 0 then 0
 else if p = false ∧ 1 < lead (l.drop n) ∧ at_ l n = 48 then 0
 else num2 l (n + lead (l.drop n))
def num (p : Bool) (l : List UInt8) : Nat := num1 p l (sgn p l 0)
theorem sgn_drop (p : Bool) (l : List UInt8) (k n : Nat) : sgn p (l.drop k) n = sgn p l (k + n) := by simp [sgn, at_drop]
theorem sgn_le (p : Bool) (l : List UInt8) (n : Nat) (hn : n ≤ l.length) : sgn p l n + n ≤ l.length := by
 unfold sgn
 split
 ·rename_i h
  have : n < l.length := lt_of_at (by rcases h with h | ⟨_, h⟩ <;> omega)
  omega
 ·omega
end Tx
set_option maxHeartbeats 400000 in
theorem signLength_any (l : List UInt8) (w : World) (hl : l.length ≤ 9223372036854775807) :
  Calls Tryz.prog 155 #[.string (bs l)] w fun e w' => ∃ k : Nat, e = .returned (.int .i64 k) ∧ w' = w ∧ Hid (k = Tx.sgn true l 0) ∧ k ≤ l.length := by
 obtain ⟨S, hS, e0, e1, e2, e3, e4, e5⟩ := tells l
 rw [hS]
 clear e2 e3 e4 e5 hS
 by_cases h0 : 0 < l.length
 ·go_enter Tryz.func155, Tryz.ntmps155
  go_wp2
  all_goals
   go_ret
  ·exact ⟨1, rfl, rfl, by simp [Hid, Tx.sgn, *], h0⟩
  ·exact ⟨1, rfl, rfl, by simp_all [Hid, Tx.sgn], h0⟩
  ·exact ⟨0, rfl, rfl, by simp_all [Hid, Tx.sgn], by omega⟩
 ·have : Tx.at_ l 0 = -1 := Tx.at_ge h0
  go_enter Tryz.func155, Tryz.ntmps155
  go_wp2
  go_ret
  exact ⟨0, rfl, rfl, by simp [Hid, Tx.sgn, *], by omega⟩
theorem digitsLength_let (l : List UInt8) (w : World) (hl : l.length ≤ 9223372036854775807) :
  Calls Tryz.prog 156 #[.string (bs l)] w fun e w' => ∃ k : Nat, e = .returned (.int .i64 k) ∧ w' = w ∧ Hid (k = Tx.lead l) ∧ k ≤ l.length :=
 (digitsLength_any l w hl).mono fun e w' ⟨h1, h2⟩ => ⟨_, h1, h2, rfl, Tx.lead_le l⟩
theorem Tx.at_ge' {l : List UInt8} {i : Nat} (h : l.length ≤ i) : Tx.at_ l i = -1 := Tx.at_ge (by omega)
set_option maxHeartbeats 4000000 in
theorem Length_any (l : List UInt8) (w : World) (hl : l.length ≤ 9223372036854775807) :
  Calls Tryz.prog 145 #[.string (bs l)] w fun e w' => e = .returned (.int .i64 (Tx.num true l : Nat)) ∧ w' = w := by
 obtain ⟨e0, e1, e2, e3, e4, e5⟩ := bs_tells l
 clear e3 e4 e5
 go_enter Tryz.func145, Tryz.ntmps145
 go_wp2_with (first
  | (go_at_call 156; refine (digitsLength_let _ _ (by simp only [List.length_drop]; omega)).mono ?_; rintro e w' ⟨k, rfl, rfl, hk, hle⟩; rw [List.length_drop] at hle)
  | (go_at_call 155; refine (signLength_any _ _ (by first | exact hl | (simp only [List.length_drop]; omega))).mono ?_; rintro e w' ⟨k, rfl, rfl, hk, hle⟩; try rw [List.length_drop] at hle))
 all_goals
  go_ret
  refine ⟨?_, rfl⟩
  clear e0 e1 e2
  simp only [Hid, Tx.sgn_drop, Nat.add_zero, ← Nat.add_assoc, ← Int.add_assoc, Int.not_lt, ← Int.natCast_add, Int.ofNat_le, Int.ofNat_lt] at *
  subst_vars
  try norm_cast at *
  try simp only [← Nat.add_assoc] at *
  show Ending.returned (.int .i64 _) = _
  refine congrArg (fun k : Nat => Ending.returned (.int .i64 (k : Int))) ?_
  simp_all [Tx.num, Tx.num1, Tx.num2, Tx.num3, Tx.at_ge']
namespace Tx
def cap (B : Int) (l : List UInt8) (e : Int) : Int := l.foldl (fun e c => if e < B then e * 10 + ((c.toNat : Int) - 48) else e) e
def allDig (l : List UInt8) : Prop := ∀ c ∈ l, digit c.toNat = true
theorem cap_cons (B : Int) (c : UInt8) (l : List UInt8) (e : Int) : cap B (c :: l) e = cap B l (if e < B then e * 10 + ((c.toNat : Int) - 48) else e) := rfl
theorem dig_at {l : List UInt8} {n i : Nat} (h : allDig (l.drop n)) (hn : n ≤ i) (hi : i < l.length) : 48 ≤ at_ l i ∧ at_ l i ≤ 57 := by
 have hm : l[i] ∈ l.drop n := by
  rw [List.mem_drop_iff_getElem]
  exact ⟨i - n, by omega, by congr 1; omega⟩
 have := h _ hm
 rw [at_lt hi]
 simpa [digit] using this
theorem cap_step {B : Int} {l : List UInt8} {i : Nat} (hi : i < l.length) (e : Int) : cap B (l.drop i) e = cap B (l.drop (i + 1)) (if e < B then e * 10 + (at_ l i - 48) else e) := by
 rw [drop_cons hi, cap_cons, at_lt hi]
theorem cap_end {B : Int} {l : List UInt8} {i : Nat} (hi : ¬ i < l.length) (e : Int) : cap B (l.drop i) e = e := by
 rw [List.drop_of_length_le (Nat.le_of_not_lt hi)]; rfl
end Tx
set_option maxHeartbeats 1000000 in
theorem exponent_any (l : List UInt8) (w : World) (hl : l.length ≤ 9223372036854775807) (hd : Tx.allDig (l.drop (Tx.sgn true l 0))) :
  Calls Tryz.prog 168 #[.string (bs l)] w fun e w' => e = .returned (.int .i64 (if Tx.at_ l 0 = 45 then - Tx.cap 60000 (l.drop (Tx.sgn true l 0)) 0 else Tx.cap 60000 (l.drop (Tx.sgn true l 0)) 0)) ∧ w' = w := by
 obtain ⟨e0, e1, e2, e3, e4, e5⟩ := bs_tells l
 clear e2 e3 e4 e5
 obtain ⟨n, hn⟩ : ∃ n, n = Tx.sgn true l 0 := ⟨_, rfl⟩
 have hs : n ≤ l.length := by have := Tx.sgn_le true l 0 (Nat.zero_le _); rw [hn]; omega
 rw [← hn] at hd ⊢
 have HN : Hid (n = Tx.sgn true l 0) := hn
 have HD : Hid (Tx.allDig (l.drop n)) := hd
 clear hn hd
 obtain ⟨R, hR⟩ : ∃ R, R = Tx.cap 60000 (l.drop n) 0 := ⟨_, rfl⟩
 rw [← hR]
 have HR : Hid (R = Tx.cap 60000 (l.drop n) 0) := hR
 clear hR
 go_enter Tryz.func168, Tryz.ntmps168
 go_wp2_with (go_at_call 155; refine (signLength_any _ _ hl).mono ?_; rintro e w' ⟨k, rfl, rfl, hk, hle⟩; obtain rfl : n = k := HN.out.trans hk.out.symm; clear hk hle)
 go_loop [3, 4] (fun p i => ∃ (q : Nat) (e : Int), q ≤ l.length ∧ n ≤ q ∧ i = .int .i64 q ∧ p = .int .i64 e ∧ 0 ≤ e ∧ e ≤ 600000 ∧ Hid (R = Tx.cap 60000 (l.drop q) e)) (fun _ i => l.length - (intOf i).toNat)
 case atStart => exact ⟨n, 0, hs, Nat.le_refl _, rfl, rfl, by omega, by omega, HR⟩
 case round =>
  obtain ⟨q, e, hq, hnq, rfl, rfl, h0, h6, HE⟩ := hrel
  by_cases hlt : q < l.length
  ·obtain ⟨d1, d2⟩ := Tx.dig_at HD.out hnq hlt
   have HS := hide (HE.out.trans (Tx.cap_step hlt e))
   clear HE
   by_cases hc : e < 60000
   ·go_wp2
    go_round
    case rel => exact ⟨q + 1, e * 10 + (Tx.at_ l q - 48), by omega, by omega, by go_num, by go_num, by omega, by omega, by have := HS.out; rw [if_pos hc] at this; exact this⟩
    case measure => simp [intOf]; omega
   ·go_wp2
    go_round
    case rel => exact ⟨q + 1, e, by omega, by omega, by go_num, rfl, by omega, by omega, by have := HS.out; rw [if_neg hc] at this; exact this⟩
    case measure => simp [intOf]; omega
  ·have HS := hide (HE.out.trans (Tx.cap_end hlt e))
   clear HE
   by_cases hz : 0 < l.length
   ·by_cases h45 : Tx.at_ l 0 = 45
    ·go_wp2
     go_ret
     exact ⟨by rw [HS.out]; rfl, rfl⟩
    ·go_wp2
     go_ret
     exact ⟨by rw [HS.out]; rfl, rfl⟩
   ·have h45 : ¬ Tx.at_ l 0 = 45 := by rw [Tx.at_ge hz]; decide
    go_wp2
    go_ret
    exact ⟨by rw [HS.out]; rfl, rfl⟩
namespace Tx
def val (l : List UInt8) (v : Nat) : Nat := l.foldl (fun v c => v * 10 + (c.toNat - 48)) v
theorem val_step {l : List UInt8} {i : Nat} (hi : i < l.length) (v : Nat) : val (l.drop i) v = val (l.drop (i + 1)) (v * 10 + (l[i].toNat - 48)) := by
 rw [drop_cons hi]; rfl
theorem val_end {l : List UInt8} {i : Nat} (hi : ¬ i < l.length) (v : Nat) : val (l.drop i) v = v := by
 rw [List.drop_of_length_le (Nat.le_of_not_lt hi)]; rfl
theorem dig_get {l : List UInt8} {i : Nat} (h : allDig l) (hi : i < l.length) : 48 ≤ l[i].toNat ∧ l[i].toNat ≤ 57 := by
 have := h _ (List.getElem_mem hi)
 have := (show (48 : Int) ≤ (l[i].toNat : Int) ∧ (l[i].toNat : Int) ≤ 57 by simpa [digit] using this)
 omega
def amt (l : List UInt8) (p : Int) : Option Nat :=
 if l = [] then some 0
 else if p < -4 ∨ (l.length : Int) + p > 4 then none
 else if val l 0 * 10 ^ (p + 4).toNat % 625 ≠ 0 ∨ val l 0 * 10 ^ (p + 4).toNat / 625 > 32768 then none
 else some (val l 0 * 10 ^ (p + 4).toNat / 625)
end Tx
def optV : Option Nat → Value
 | some k => .tuple #[.int .i64 (k : Nat), .bool true]
 | none => .tuple #[.int .i64 0, .bool false]
theorem amt_none {l : List UInt8} {p : Int} (h0 : l ≠ []) (h : p < -4 ∨ (l.length : Int) + p > 4) : Tx.amt l p = none := by
 simp [Tx.amt, h0, h]
set_option maxHeartbeats 4000000 in
theorem amountOf_any (b : Bool) (l : List UInt8) (p : Int) (w : World) (hl : l.length ≤ 6000) (hp : -1000000 ≤ p) (hp2 : p ≤ 1000000) (hd : Tx.allDig l) :
  Calls Tryz.prog 167 #[.agg #[.bool b, .string (bs l), .int .i64 p]] w fun e w' => e = .returned (optV (Tx.amt l p)) ∧ Up w w' := by
 obtain ⟨e0, e1, e2, e3, e4, e5⟩ := bs_tells l
 clear e2 e3 e4 e5
 have HD := hide hd
 clear hd
 by_cases hz : l = []
 ·have hz' : l.length = 0 := by rw [hz]; rfl
  have HA := hide (show Tx.amt l p = some 0 by simp [Tx.amt, hz])
  clear hz
  go_enter Tryz.func167, Tryz.ntmps167
  go_wp2
  go_ret2
  exact ⟨by rw [HA.out]; rfl, (Up.refl _).alloc _⟩
 ·have h1 : 0 < l.length := by cases l with
   | nil => exact absurd rfl hz
   | cons a t => simp
  have hz' : ((l.length : Int) == 0) = false := beq_eq_false_iff_ne.2 (by omega)
  by_cases hlo : p < -4
  ·have HA := hide (amt_none hz (.inl hlo))
   clear hz
   go_enter Tryz.func167, Tryz.ntmps167
   go_wp2
   go_ret2
   exact ⟨by rw [HA.out]; rfl, (Up.refl _).alloc _⟩
  ·by_cases hhi : (l.length : Int) + p > 4
   ·have HA := hide (amt_none hz (.inr hhi))
    clear hz
    go_enter Tryz.func167, Tryz.ntmps167
    go_wp2
    go_ret2
    exact ⟨by rw [HA.out]; rfl, (Up.refl _).alloc _⟩
   ·obtain ⟨V, hV⟩ : ∃ V, V = Tx.val l 0 := ⟨_, rfl⟩
    obtain ⟨T, hT⟩ : ∃ T, T = Tx.val l 0 * 10 ^ (p + 4).toNat := ⟨_, rfl⟩
    have HA := hide (show Tx.amt l p = (if T % 625 ≠ 0 ∨ T / 625 > 32768 then none else some (T / 625)) by
     rw [hT]; unfold Tx.amt; rw [if_neg hz, if_neg (by omega)])
    have HV := hide hV
    have HT := hide hT
    clear hz hV hT
    have h8 : l.length ≤ 8 := by omega
    go_enter Tryz.func167, Tryz.ntmps167
    go_wp2
    go_loop [4, 5] (fun s i => ∃ q v : Nat, q ≤ l.length ∧ i = .int .i64 q ∧ s = .int .i64 v ∧ v < 100000000 ∧ Hid (v < 10 ^ q) ∧ Hid (V = Tx.val (l.drop q) v)) (fun _ i => l.length - (intOf i).toNat)
    case atStart => exact ⟨0, 0, Nat.zero_le _, rfl, rfl, by omega, by simp [Hid], HV⟩
    case round =>
     obtain ⟨q, v, hq, rfl, rfl, hv8, Hv, HW⟩ := hrel
     by_cases hlt : q < l.length
     ·obtain ⟨d1, d2⟩ := Tx.dig_get HD.out hlt
      have HS := hide (HW.out.trans (Tx.val_step hlt v))
      have e6 : Tx.at_ l q = (l[q].toNat : Int) := Tx.at_lt hlt
      generalize l[q].toNat = c at d1 d2 HS e6
      have Hn : v * 10 + (c - 48) < 10 ^ (q + 1) := by have := Hv.out; rw [Nat.pow_succ]; omega
      have hn8 : v * 10 + (c - 48) < 100000000 := Nat.lt_of_lt_of_le Hn (Nat.pow_le_pow_right (n := 10) (by omega) (show q + 1 ≤ 8 by omega))
      have HN := hide Hn
      clear Hn HW Hv
      go_wp2
      go_round
      case rel => exact ⟨q + 1, v * 10 + (c - 48), by omega, by go_num, by go_num, hn8, HN, HS⟩
      case measure => simp [intOf]; omega
     ·obtain rfl : V = v := HW.out.trans (Tx.val_end hlt v)
      obtain rfl : q = l.length := by omega
      clear HW
      obtain ⟨J, hJ⟩ : ∃ J : Nat, J = (p + 4).toNat := ⟨_, rfl⟩
      have hJ' : (J : Int) = p + 4 := by omega
      have hJ8 : l.length + J ≤ 8 := by omega
      have HT' : Hid (T = V * 10 ^ J) := by have := HT.out; rw [← HV.out, ← hJ] at this; exact this
      clear HT HV hJ
      obtain rfl : p = (J : Int) - 4 := by omega
      clear hJ'
      go_wp2
      go_loop [4, 6] (fun s i => ∃ j u : Nat, j ≤ J ∧ i = .int .i64 ((J : Int) - 4 - j) ∧ s = .int .i64 u ∧ u < 100000000 ∧ Hid (u = V * 10 ^ j)) (fun _ i => (intOf i + 4).toNat)
      case atStart => exact ⟨0, V, Nat.zero_le _, by simp, rfl, hv8, by simp [Hid]⟩
      case round =>
       obtain ⟨j, u, hj, rfl, rfl, hu8, HU⟩ := hrel
       by_cases hlt2 : j < J
       ·have Hn : u * 10 = V * 10 ^ (j + 1) := by rw [HU.out, Nat.pow_succ, Nat.mul_assoc]
        have hn8 : u * 10 < 100000000 := by
         rw [Hn]
         have a1 : V * 10 ^ (j + 1) < 10 ^ l.length * 10 ^ (j + 1) := Nat.mul_lt_mul_of_pos_right Hv.out (Nat.pos_of_ne_zero (by simp))
         rw [← Nat.pow_add] at a1
         exact Nat.lt_of_lt_of_le a1 (Nat.pow_le_pow_right (n := 10) (by omega) (show l.length + (j + 1) ≤ 8 by omega))
        have HN := hide Hn
        clear Hn HU
        go_wp2
        go_round
        case rel => exact ⟨j + 1, u * 10, by omega, by go_num, by go_num, hn8, HN⟩
        case measure => simp [intOf]; omega
       ·obtain rfl : j = J := by omega
        obtain rfl : T = u := HT'.out.trans HU.out.symm
        clear HU HT' Hv
        by_cases r1 : T % 625 = 0
        ·by_cases r2 : T / 625 > 32768
         ·have HB := hide (HA.out.trans (if_pos (.inr r2)))
          go_wp2
          go_ret2
          exact ⟨by rw [HB.out]; rfl, (Up.refl _).alloc _⟩
         ·have HB := hide (HA.out.trans (if_neg (by omega)))
          go_wp2
          go_ret2
          exact ⟨by rw [HB.out]; rfl, (Up.refl _).alloc _⟩
        ·have HB := hide (HA.out.trans (if_pos (.inl r1)))
         go_wp2
         go_ret2
         exact ⟨by rw [HB.out]; rfl, (Up.refl _).alloc _⟩
namespace Tx
def z (c : UInt8) : Bool := c == 48
def trL (l : List UInt8) : List UInt8 := l.dropWhile z
def trR (l : List UInt8) : List UInt8 := (l.reverse.dropWhile z).reverse
theorem z_at {l : List UInt8} {i : Nat} (h : i < l.length) : z l[i] = (at_ l i == 48) := by
 rw [at_lt h, z, Bool.eq_iff_iff]
 simp only [beq_iff_eq]
 constructor
 ·intro h; rw [h]; rfl
 ·intro h; exact UInt8.toNat_inj.1 (by have : (48 : UInt8).toNat = 48 := rfl; omega)
theorem trL_step {l : List UInt8} {q : Nat} (hq : q < l.length) : trL (l.drop q) = if at_ l q = 48 then trL (l.drop (q + 1)) else l.drop q := by
 have := z_at hq
 by_cases h : at_ l q = 48
 ·rw [if_pos h, drop_cons hq, trL, List.dropWhile_cons, this, h]; rfl
 ·rw [if_neg h, drop_cons hq, trL, List.dropWhile_cons, this]
  simp [h]
theorem trR_snoc (l : List UInt8) (c : UInt8) : trR (l ++ [c]) = if z c then trR l else l ++ [c] := by
 cases h : z c <;> simp [trR, List.dropWhile_cons, h]
theorem win_snoc {l : List UInt8} {f t : Nat} (hf : f < t) (ht : t ≤ l.length) : (l.drop f).take (t - f) = (l.drop f).take (t - 1 - f) ++ [l[t - 1]'(by omega)] := by
 have e : t - f = (t - 1 - f) + 1 := by omega
 rw [e, List.take_succ_eq_append_getElem (by simp; omega)]
 congr 2
 simp
 congr 1
 omega
theorem trR_step {l : List UInt8} {f t : Nat} (hf : f < t) (ht : t ≤ l.length) : trR ((l.drop f).take (t - f)) = if at_ l (t - 1) = 48 then trR ((l.drop f).take (t - 1 - f)) else (l.drop f).take (t - f) := by
 have := z_at (l := l) (i := t - 1) (by omega)
 rw [win_snoc hf ht, trR_snoc, this]
 by_cases h : at_ l (t - 1) = 48 <;> simp [h]
end Tx
theorem load_number {W : World} {b : Nat} {v0 v1 v2 : Value} (h : VRow W b 179 [v0, v1, v2]) : (loadVar 179 ⟨b, 0, none⟩).run Tryz.prog W = .ok (.agg #[v0, v1, v2]) W := by
 have c0 := h.cell (i := 0) (v := v0) rfl
 have c1 := h.cell (i := 1) (v := v1) rfl
 have c2 := h.cell (i := 2) (v := v2) rfl
 simp [go_sem, c0, c1, c2]
theorem vrow_new2 (w : World) (o : Obj) (v0 v1 v2 : Value) (t : TypeId) : VRow ((w.alloc o).alloc (.cells #[v0, v1, v2] t)) (w.heap.size + 1) t [v0, v1, v2] := by
 have h := VRow.new (w.alloc o) [v0, v1, v2] t
 have e : (w.alloc o).heap.size = w.heap.size + 1 := by simp
 rw [e] at h
 exact h
theorem ret_trim {a : Act} {W : World} {Q : Ending → World → Prop} {b : Nat} {v0 v1 v2 : Value} (h4 : a.tmps.getD 2 undef = .pointer (some ⟨b, 0, none⟩)) (hd : a.defers = []) (hrow : VRow W b 179 [v0, v1, v2])
  (hQ : Q (.returned (.agg #[v0, v1, v2])) W) : bodyPost Tryz.prog Tryz.f166 Q .ret a W := by
 refine bodyPost_ret (v := .agg #[v0, v1, v2]) ?_ hd hQ
 rw [results_cell Tryz.results166, h4]
 simp only [asAddr, Sem.run_pure, Result.andThen_ok]
 exact load_number hrow
set_option maxHeartbeats 4000000 in
theorem trim_any (b : Bool) (l : List UInt8) (p : Int) (w : World) (hl : l.length ≤ 6000) (hp : -900000 ≤ p) (hp2 : p ≤ 900000) :
  Calls Tryz.prog 166 #[.agg #[.bool b, .string (bs l), .int .i64 p]] w fun e w' => e = .returned (.agg #[.bool b, .string (bs (Tx.trR (Tx.trL l))), .int .i64 (p + (((Tx.trL l).length : Int) - ((Tx.trR (Tx.trL l)).length : Int)))]) ∧ Up w w' := by
 obtain ⟨e0, e1, e2, e3, e4, e5⟩ := bs_tells l
 have e7 : ∀ a b, (bs l).extract a b = bs ((l.drop a).take (b - a)) := bs_extract l
 clear e2 e3 e4 e5
 go_enter Tryz.func166, Tryz.ntmps166
 go_wp2
 go_loop [3] (fun i => ∃ q : Nat, q ≤ l.length ∧ i = .int .i64 q ∧ Hid (Tx.trL l = Tx.trL (l.drop q))) (fun i => l.length - (intOf i).toNat)
 case atStart => exact ⟨0, Nat.zero_le _, rfl, rfl⟩
 case round =>
  obtain ⟨q, hq, rfl, HQ⟩ := hrel
  by_cases hg : q < l.length ∧ Tx.at_ l q = 48
  ·obtain ⟨h1, h2⟩ := hg
   have HS := hide (HQ.out.trans ((Tx.trL_step h1).trans (if_pos h2)))
   clear HQ
   go_wp2
   go_round
   case rel => exact ⟨q + 1, by omega, by go_num, HS⟩
   case measure => simp [intOf]; omega
  ·have HS : Hid (Tx.trL l = l.drop q) := by
    by_cases h1 : q < l.length
    ·exact HQ.out.trans ((Tx.trL_step h1).trans (if_neg (fun e => hg ⟨h1, e⟩)))
    ·have := HQ.out
     rw [List.drop_of_length_le (Nat.le_of_not_lt h1)] at this ⊢
     exact this
   clear HQ
   have hcase : (q = l.length) ∨ (q < l.length ∧ (Tx.at_ l q == 48) = false) := by
    by_cases h1 : q < l.length
    ·exact .inr ⟨h1, beq_eq_false_iff_ne.2 (fun e => hg ⟨h1, e⟩)⟩
    ·exact .inl (by omega)
   clear hg
   rcases hcase with hc | ⟨hc, hc2⟩
   all_goals
    go_wp2
    go_loop [4] (fun i => ∃ t : Nat, q ≤ t ∧ t ≤ l.length ∧ i = .int .i64 t ∧ Hid (Tx.trR (Tx.trL l) = Tx.trR ((l.drop q).take (t - q)))) (fun i => (intOf i).toNat)
    case atStart => exact ⟨l.length, hq, Nat.le_refl _, rfl, by rw [HS.out, List.take_of_length_le (by simp)]; exact rfl⟩
    case round =>
     obtain ⟨t, hqt, ht, rfl, HT⟩ := hrel
     by_cases hgt : q < t ∧ Tx.at_ l (t - 1) = 48
     ·obtain ⟨h1, h2⟩ := hgt
      have HU := hide (HT.out.trans ((Tx.trR_step h1 ht).trans (if_pos h2)))
      clear HT
      obtain ⟨s, rfl⟩ : ∃ s, t = s + 1 := ⟨t - 1, by omega⟩
      simp only [Nat.add_sub_cancel] at h2 HU
      go_wp2
      all_goals
       go_round
       case rel => exact ⟨s, by omega, by omega, by go_num, HU⟩
       case measure => simp [intOf] <;> omega
     ·obtain ⟨X, hX⟩ : ∃ X, X = (l.drop q).take (t - q) := ⟨_, rfl⟩
      have HX : Hid (Tx.trR (Tx.trL l) = X) := by
       rw [hX]
       by_cases h1 : q < t
       ·exact HT.out.trans ((Tx.trR_step h1 ht).trans (if_neg (fun e => hgt ⟨h1, e⟩)))
       ·have e : t - q = 0 := by omega
        have := HT.out
        rw [e, List.take_zero] at this ⊢
        exact this
      have HL : Hid (p + (((Tx.trL l).length : Int) - ((Tx.trR (Tx.trL l)).length : Int)) = p + ((l.length : Int) - t)) := by
       rw [HX.out, HS.out, hX]
       simp [Hid]
       omega
      have e8 : (bs l).extract q t = bs X := by rw [hX]; exact e7 q t
      have Hz : Hid (q = t → bs X = ByteArray.empty) := by
       intro e
       rw [hX, e, Nat.sub_self, List.take_zero]
       rfl
      clear e7 hX HT
      have hcase2 : (q = t) ∨ (q < t ∧ (Tx.at_ l (t - 1) == 48) = false) := by
       by_cases h1 : q < t
       ·exact .inr ⟨h1, beq_eq_false_iff_ne.2 (fun e => hgt ⟨h1, e⟩)⟩
       ·exact .inl (by omega)
      clear hgt
      rcases hcase2 with hd | ⟨hd, hd2⟩
      ·subst hd
       go_wp2
       all_goals
        refine ret_trim rfl rfl (vrow_new2 _ _ _ _ _ _) ⟨?_, ((Up.refl _).alloc _).alloc _⟩
        rw [HL.out, HX.out, Hz.out (by omega)]
        try simp
        try omega
      ·obtain ⟨s, rfl⟩ : ∃ s, t = s + 1 := ⟨t - 1, by omega⟩
       simp only [Nat.add_sub_cancel] at hd2
       go_wp2
       all_goals
        refine ret_trim rfl rfl (vrow_new2 _ _ _ _ _ _) ⟨?_, ((Up.refl _).alloc _).alloc _⟩
        rw [HL.out, HX.out]
        try simp
        try omega
end Go.Proofs.YtcclepohmhdpbabGreatDoor
