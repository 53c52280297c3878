import Derived.Test.YtcclepohmhdpbaaGreatDoorTyD
import Derived.Test.YtcclepohmhdpbaaGreatDoorWalkI
import Derived.Test.YtcclepohmhdpbaaGreatDoorBnMath
/- THE PROGRAM's TEXTS, WRITTEN: lists with their marks. -/
namespace Go.Proofs.YtcclepohmhdpbaaGreatDoor
set_option linter.all false
open Go.RowKit Go.Deep

theorem Tab.up {w w' : World} (h : Tab w) (k : Up w w') : Tab w' := by
  unfold Tab Lib.TabIs World.var? at *
  generalize Tryz.prog.globalNamed "internal/strconv.uint64pow10" = o at *
  cases o with
  | none => simp at h
  | some g =>
    simp only [Option.bind_some] at h ⊢
    have hg : g < w.heap.size := by
      rcases Nat.lt_or_ge g w.heap.size with e | e
      · exact e
      · rw [Array.getElem?_eq_none e] at h; simp at h
    rw [k.block g hg]
    exact h

/-- What a format writes around things and between them. -/
structure Mk where
  o : List UInt8
  c : List UInt8
  s : List UInt8
  a : List UInt8
  b : List UInt8
  d : List UInt8
def Mk.cells (m : Mk) : List Value := [.string (bs m.o), .string (bs m.c), .string (bs m.s), .string (bs m.a), .string (bs m.b), .string (bs m.d)]
structure Mk.ok (m : Mk) : Prop where
  o : m.o.length ≤ 9
  c : m.c.length ≤ 9
  s : m.s.length ≤ 9
  a : m.a.length ≤ 9
  b : m.b.length ≤ 9
  d : m.d.length ≤ 9
namespace Mk
def gap (m : Mk) (i : Nat) : List UInt8 := if i = 0 then [] else m.c
def pt (m : Mk) (p : Pnt) : List UInt8 := m.a ++ Tx.txt p.1 ++ m.b ++ Tx.txt p.2 ++ m.d
def listT {α : Type} (m : Mk) (f : α → List UInt8) (i : Nat) : List α → List UInt8
  | [] => []
  | x :: t => m.gap i ++ f x ++ listT m f (i + 1) t
def list {α : Type} (m : Mk) (f : α → List UInt8) (l : List α) : List UInt8 := m.o ++ (listT m f 0 l ++ m.s)
def ring (m : Mk) : Ring → List UInt8 := m.list m.pt
def poly (m : Mk) : Poly → List UInt8 := m.list m.ring
def set (m : Mk) : Mult → List UInt8 := m.list m.poly
theorem listT_step {α : Type} (m : Mk) (f : α → List UInt8) {l : List α} {n i : Nat} {a : α} (h : l[n]? = some a) : listT m f i (l.drop n) = m.gap i ++ f a ++ listT m f (i + 1) (l.drop (n + 1)) := by
  have hn : n < l.length := Pl.lt_of_some h
  rw [List.drop_eq_getElem_cons hn]
  have : l[n] = a := by rw [List.getElem?_eq_getElem hn] at h; exact Option.some.inj h
  rw [this]; rfl
theorem listT_end {α : Type} (m : Mk) (f : α → List UInt8) {l : List α} {n i : Nat} (h : ¬ n < l.length) : listT m f i (l.drop n) = [] := by
  rw [List.drop_of_length_le (Nat.le_of_not_lt h)]; rfl
theorem gap_le {m : Mk} (h : m.ok) (i : Nat) : (m.gap i).length ≤ 9 := by unfold gap; split; · simp
                                                                          · exact h.c
theorem txt_le {x : Int} (h1 : -32768 ≤ x) (h2 : x ≤ 32768) : (Tx.txt x).length ≤ 3000 := by
  unfold Tx.txt
  have a := Tx.part_le (x.natAbs % 16)
  have b : (Lib.decDigits (x.natAbs / 16)).length ≤ 2100 := by rw [Lib.decDigits_length]; have := nDigits_le (x.natAbs / 16); omega
  have c : (if x < 0 then [45] else [] : List UInt8).length ≤ 1 := by split <;> simp
  simp only [List.length_append]
  omega
theorem listT_le {α : Type} {m : Mk} (h : m.ok) (f : α → List UInt8) (b : Nat) : ∀ (l : List α) (i : Nat), (∀ x ∈ l, (f x).length ≤ b) → (listT m f i l).length ≤ l.length * (9 + b)
  | [], i, _ => by simp [listT]
  | x :: t, i, hx => by
    have h1 := listT_le h f b t (i + 1) fun y hy => hx y (List.mem_cons_of_mem _ hy)
    have h2 := hx x (by simp)
    have h3 := gap_le h i
    simp only [listT, List.length_append, List.length_cons, Nat.add_mul]
    omega
theorem pt_le {m : Mk} (h : m.ok) {p : Pnt} (hp : (-32768 ≤ p.1 ∧ p.1 ≤ 32768) ∧ -32768 ≤ p.2 ∧ p.2 ≤ 32768) : (m.pt p).length ≤ 6100 := by
  have h1 := txt_le hp.1.1 hp.1.2
  have h2 := txt_le hp.2.1 hp.2.2
  have := h.a
  have := h.b
  have := h.d
  simp only [pt, List.length_append]
  omega
theorem ring_le {m : Mk} (h : m.ok) {r : Ring} (hr : Bn.okR r) : (m.ring r).length ≤ 40000000 := by
  have h1 := listT_le h m.pt 6100 r 0 fun p hp => pt_le h (hr.2 p hp)
  have := hr.1
  have := h.o
  have := h.s
  simp only [ring, list, List.length_append]
  omega
theorem poly_le {m : Mk} (h : m.ok) {l : Poly} (hl : Bn.okL l) : (m.poly l).length ≤ 300000000000 := by
  have h1 := listT_le h m.ring 40000000 l 0 fun r hr => ring_le h (hl.2 r hr)
  have := hl.1
  have := h.o
  have := h.s
  simp only [poly, list, List.length_append]
  omega
end Mk

set_option maxHeartbeats 1000000 in
theorem mgap_any (m : Mk) (i : Nat) (w : World) :
    Calls Tryz.prog 191 #[.agg #[.string (bs m.o), .string (bs m.c), .string (bs m.s), .string (bs m.a), .string (bs m.b), .string (bs m.d)], .int .i64 i] w fun e w' => e = .returned (.string (bs (m.gap i))) ∧ Up w w' := by
  by_cases h : i = 0
  · subst h
    go_enter Tryz.func191, Tryz.ntmps191
    go_wp2
    go_ret
    exact ⟨rfl, (Up.refl w).alloc _⟩
  · have h' : ((i : Int) == 0) = false := beq_eq_false_iff_ne.2 (by omega)
    have HC := hide (show m.gap i = m.c by simp [Mk.gap, h])
    go_enter Tryz.func191, Tryz.ntmps191
    go_wp2
    go_ret
    exact ⟨by rw [HC.out]; rfl, (Up.refl w).alloc _⟩

set_option maxRecDepth 100000 in
set_option maxHeartbeats 2000000 in
theorem mpoint_any (m : Mk) (hm : m.ok) (px py : Int) (w : World) (x1 : -32768 ≤ px) (x2 : px ≤ 32768) (y1 : -32768 ≤ py) (y2 : py ≤ 32768) (ht : Tab w) :
    Calls Tryz.prog 252 #[.agg #[.string (bs m.o), .string (bs m.c), .string (bs m.s), .string (bs m.a), .string (bs m.b), .string (bs m.d)], .agg #[.int .i64 px, .int .i64 py]] w fun e w' => e = .returned (.string (bs (m.pt (px, py)))) ∧ Up w w' := by
  have HT := hide ht
  clear ht
  have L1 := Mk.txt_le x1 x2
  have L2 := Mk.txt_le y1 y2
  have HE : Hid (m.pt (px, py) = m.a ++ Tx.txt px ++ m.b ++ Tx.txt py ++ m.d) := rfl
  obtain ⟨X, hX⟩ : ∃ X, X = Tx.txt px := ⟨_, rfl⟩
  obtain ⟨Y, hY⟩ : ∃ Y, Y = Tx.txt py := ⟨_, rfl⟩
  rw [← hX] at L1 HE
  rw [← hY] at L2 HE
  have HX := hide hX
  have HY := hide hY
  clear hX hY
  have la := hm.a
  have lb := hm.b
  have ld := hm.d
  have z0 := bs_size m.a
  have z1 := bs_size X
  have z2 := bs_size m.b
  have z3 := bs_size Y
  have z4 := bs_size m.d
  have q1 := bs_append m.a X
  have z5 := bs_size (m.a ++ X)
  have q2 := bs_append (m.a ++ X) m.b
  have z6 := bs_size (m.a ++ X ++ m.b)
  have q3 := bs_append (m.a ++ X ++ m.b) Y
  have z7 := bs_size (m.a ++ X ++ m.b ++ Y)
  have q4 := bs_append (m.a ++ X ++ m.b ++ Y) m.d
  simp only [List.append_assoc, List.length_append] at q1 q2 q3 q4 z5 z6 z7
  have uB := ((Up.refl w).alloc (.cells #[.string (bs m.o), .string (bs m.c), .string (bs m.s), .string (bs m.a), .string (bs m.b), .string (bs m.d)] 174)).alloc (.cells #[.int .i64 px, .int .i64 py] 32)
  have hM := (VRow.new w m.cells 174).alloc (.cells #[.int .i64 px, .int .i64 py] 32)
  have hP : VRow ((w.alloc (.cells #[.string (bs m.o), .string (bs m.c), .string (bs m.s), .string (bs m.a), .string (bs m.b), .string (bs m.d)] 174)).alloc (.cells #[.int .i64 px, .int .i64 py] 32)) (w.heap.size + 1) 32 [.int .i64 px, .int .i64 py] := by
    have := VRow.new (w.alloc (.cells #[.string (bs m.o), .string (bs m.c), .string (bs m.s), .string (bs m.a), .string (bs m.b), .string (bs m.d)] 174)) [.int .i64 px, .int .i64 py] 32
    simpa using this
  have HM := hide hM
  have HPR := hide hP
  have HUB := hide uB
  clear hM hP uB hm
  go_enter Tryz.func252, Tryz.ntmps252
  go_wp2_with fail
  refine (Text_any px _ x1 x2 (HT.out.up HUB.out)).mono ?_
  rintro e w1 ⟨rfl, u1⟩
  rw [← HX.out]
  have p1 := u1.cell (HPR.out.cell (i := 1) rfl)
  have HU1 := hide (HUB.out.trans u1)
  have HV1 := hide u1
  clear u1
  go_wp2_with fail
  refine (Text_any py _ y1 y2 (HT.out.up HU1.out)).mono ?_
  rintro e w2 ⟨rfl, u2⟩
  rw [← HY.out]
  have c3 := (HV1.out.trans u2).cell (HM.out.cell (i := 3) rfl)
  have c4 := (HV1.out.trans u2).cell (HM.out.cell (i := 4) rfl)
  have c5 := (HV1.out.trans u2).cell (HM.out.cell (i := 5) rfl)
  have HU2 := hide (HU1.out.trans u2)
  clear u2 p1
  go_wp2
  go_ret
  rw [HE.out]
  exact ⟨by simp, HU2.out⟩
end Go.Proofs.YtcclepohmhdpbaaGreatDoor

/- THE PROGRAM's TEXTS, WRITTEN: rings, polygons, sets. -/
namespace Go.Proofs.YtcclepohmhdpbaaGreatDoor
set_option linter.all false
open Go.RowKit Go.Deep

set_option maxRecDepth 100000 in
set_option maxHeartbeats 4000000 in
theorem mring_any (m : Mk) (hm : m.ok) (v : Value) (l : Ring) (w : World) (hv : Rd1 w v l) (hi : Bn.okR l) (ht : Tab w) :
    Calls Tryz.prog 232 #[.agg #[.string (bs m.o), .string (bs m.c), .string (bs m.s), .string (bs m.a), .string (bs m.b), .string (bs m.d)], v] w fun e w' => e = .returned (.string (bs (m.ring l))) ∧ Up w w' := by
  have HT := hide ht
  obtain ⟨hl, hi⟩ := hi
  have HI := hide hi
  have HO := hide hm
  clear ht hi
  obtain ⟨ao, cap, rfl, hr⟩ := hv
  have HR := hide hr
  clear hr
  have HM := hide (VRow.new w m.cells 174)
  have HUB := hide ((Up.refl w).alloc (.cells m.cells.toArray 174))
  obtain ⟨wB, hwB⟩ : ∃ wB, wB = w.alloc (.cells m.cells.toArray 174) := ⟨_, rfl⟩
  have lo := hm.o
  have ls := hm.s
  clear hm
  go_enter Tryz.func232, Tryz.ntmps232
  go_wp2_with fail
  go_loopw [5, 10] (fun s i wr => ∃ (n : Nat) (t : List UInt8), n ≤ l.length ∧ i = .int .i64 n ∧ s = .string (bs t) ∧ t.length ≤ n * 6200 ∧ Hid (m.listT m.pt 0 l = t ++ m.listT m.pt n (l.drop n)) ∧ Hid (Up wB wr)) (fun _ i _ => l.length - (intOf i).toNat)
  case atStart => exact ⟨0, [], by omega, rfl, rfl, by simp, by simp [Hid], by rw [hwB]; exact Up.refl _⟩
  case round =>
    obtain ⟨wo, hw⟩ : ∃ x, x = wr := ⟨_, rfl⟩
    subst hw
    obtain ⟨n, t, hn, rfl, rfl, htl, HL, HU⟩ := hrel
    rw [← hwB] at HM HUB
    have k0 := HU.out.cell (HM.out.cell (i := 0) rfl)
    have k1 := HU.out.cell (HM.out.cell (i := 1) rfl)
    have k2 := HU.out.cell (HM.out.cell (i := 2) rfl)
    have k3 := HU.out.cell (HM.out.cell (i := 3) rfl)
    have k4 := HU.out.cell (HM.out.cell (i := 4) rfl)
    have k5 := HU.out.cell (HM.out.cell (i := 5) rfl)
    by_cases hlt : n < l.length
    · obtain ⟨p, hp⟩ := Pl.some_of_lt hlt
      obtain ⟨px, py⟩ := p
      obtain ⟨b, rfl, hc0, hc1⟩ := HR.out n (px, py) hp
      have j0 := (HUB.out.trans HU.out).cell hc0
      have j1 := (HUB.out.trans HU.out).cell hc1
      obtain ⟨⟨x1, x2⟩, y1, y2⟩ := HI.out (px, py) (Pl.mem_of_some hp)
      have L2 := Mk.pt_le HO.out (p := (px, py)) ⟨⟨x1, x2⟩, y1, y2⟩
      dsimp only at *
      have HPV := hide (VRow.new wo [.int .i64 px, .int .i64 py] 32)
      have HUA := hide (HU.out.alloc (.cells #[.int .i64 px, .int .i64 py] 32))
      have a0 := HUA.out.cell (HM.out.cell (i := 0) rfl)
      have a1 := HUA.out.cell (HM.out.cell (i := 1) rfl)
      have a2 := HUA.out.cell (HM.out.cell (i := 2) rfl)
      have a3 := HUA.out.cell (HM.out.cell (i := 3) rfl)
      have a4 := HUA.out.cell (HM.out.cell (i := 4) rfl)
      have a5 := HUA.out.cell (HM.out.cell (i := 5) rfl)
      clear hc0 hc1
      have HS := hide (Mk.listT_step m m.pt (i := n) hp)
      have L1 := Mk.gap_le HO.out n
      obtain ⟨C, hC⟩ : ∃ C, C = m.gap n := ⟨_, rfl⟩
      obtain ⟨X, hX⟩ : ∃ X, X = m.pt (px, py) := ⟨_, rfl⟩
      rw [← hC] at L1
      rw [← hX] at L2
      have HS' : Hid (m.listT m.pt 0 l = (t ++ C ++ X) ++ m.listT m.pt (n + 1) (l.drop (n + 1))) := by
        rw [HL.out, HS.out, hC, hX]
        simp [Hid]
      have HC := hide hC
      have HX := hide hX
      clear HS HL hC hX hp
      have q1 := bs_append t C
      have q2 := bs_append (t ++ C) X
      have z0 := bs_size t
      have z1 := bs_size C
      have z2 := bs_size X
      have z4 := bs_size (t ++ C)
      simp only [List.append_assoc, List.length_append, List.length_cons, List.length_nil] at q1 q2 z4 HS'
      go_wp2_with fail
      refine (mgap_any m n _).mono ?_
      rintro e w1 ⟨rfl, u1⟩
      rw [← HC.out]
      have r0 := u1.cell (HPV.out.cell (i := 0) rfl)
      have r1 := u1.cell (HPV.out.cell (i := 1) rfl)
      have HU1 : Hid (Up wB w1) := HUA.out.trans u1
      clear u1 k0 k1 k2 k3 k4 k5
      have k0 := HU1.out.cell (HM.out.cell (i := 0) rfl)
      have k1 := HU1.out.cell (HM.out.cell (i := 1) rfl)
      have k2 := HU1.out.cell (HM.out.cell (i := 2) rfl)
      have k3 := HU1.out.cell (HM.out.cell (i := 3) rfl)
      have k4 := HU1.out.cell (HM.out.cell (i := 4) rfl)
      have k5 := HU1.out.cell (HM.out.cell (i := 5) rfl)
      clear a0 a1 a2 a3 a4 a5 j0 j1
      go_wp2_with fail
      refine (mpoint_any m HO.out px py _ x1 x2 y1 y2 (HT.out.up (HUB.out.trans HU1.out))).mono ?_
      rintro e w2 ⟨rfl, u2⟩
      rw [← HX.out]
      have HU2 : Hid (Up wB w2) := HU1.out.trans u2
      clear u2
      go_wp2
      go_roundw
      case rel => exact ⟨n + 1, t ++ C ++ X, by omega, by go_num, by simp, by simp; omega, by simpa [Hid] using HS'.out, HU2⟩
      case measure => simp [intOf]; omega
    · have HS : Hid (m.listT m.pt 0 l = t) := by rw [HL.out, Mk.listT_end _ _ hlt, List.append_nil]; exact rfl
      have HE : Hid (m.ring l = m.o ++ (t ++ m.s)) := by show m.list m.pt l = _; unfold Mk.list; rw [HS.out]
      clear HL HS
      have z0 := bs_size t
      have z1 := bs_size m.o
      have z2 := bs_size m.s
      have q1 := bs_append m.o t
      have z3 := bs_size (m.o ++ t)
      have q2 := bs_append (m.o ++ t) m.s
      simp only [List.append_assoc, List.length_append] at q1 q2 z3
      go_wp2
      go_ret
      rw [HE.out]
      exact ⟨by simp, HUB.out.trans HU.out⟩

set_option maxRecDepth 100000 in
set_option maxHeartbeats 4000000 in
theorem mpoly_any (m : Mk) (hm : m.ok) (v : Value) (l : Poly) (w : World) (hv : Rd2 w v l) (hi : Bn.okL l) (ht : Tab w) :
    Calls Tryz.prog 192 #[.agg #[.string (bs m.o), .string (bs m.c), .string (bs m.s), .string (bs m.a), .string (bs m.b), .string (bs m.d)], v] w fun e w' => e = .returned (.string (bs (m.poly l))) ∧ Up w w' := by
  have HT := hide ht
  obtain ⟨hl, hi⟩ := hi
  have HI := hide hi
  have HO := hide hm
  clear ht hi
  obtain ⟨ao, cap, rfl, hr⟩ := hv
  have HR := hide hr
  clear hr
  have HM := hide (VRow.new w m.cells 174)
  have HUB := hide ((Up.refl w).alloc (.cells m.cells.toArray 174))
  obtain ⟨wB, hwB⟩ : ∃ wB, wB = w.alloc (.cells m.cells.toArray 174) := ⟨_, rfl⟩
  have lo := hm.o
  have ls := hm.s
  clear hm
  go_enter Tryz.func192, Tryz.ntmps192
  go_wp2_with fail
  go_loopw [5, 10] (fun s i wr => ∃ (n : Nat) (t : List UInt8), n ≤ l.length ∧ i = .int .i64 n ∧ s = .string (bs t) ∧ t.length ≤ n * 40000100 ∧ Hid (m.listT m.ring 0 l = t ++ m.listT m.ring n (l.drop n)) ∧ Hid (Up wB wr)) (fun _ i _ => l.length - (intOf i).toNat)
  case atStart => exact ⟨0, [], by omega, rfl, rfl, by simp, by simp [Hid], by rw [hwB]; exact Up.refl _⟩
  case round =>
    obtain ⟨wo, hw⟩ : ∃ x, x = wr := ⟨_, rfl⟩
    subst hw
    obtain ⟨n, t, hn, rfl, rfl, htl, HL, HU⟩ := hrel
    rw [← hwB] at HM HUB
    have k0 := HU.out.cell (HM.out.cell (i := 0) rfl)
    have k1 := HU.out.cell (HM.out.cell (i := 1) rfl)
    have k2 := HU.out.cell (HM.out.cell (i := 2) rfl)
    have k3 := HU.out.cell (HM.out.cell (i := 3) rfl)
    have k4 := HU.out.cell (HM.out.cell (i := 4) rfl)
    have k5 := HU.out.cell (HM.out.cell (i := 5) rfl)
    by_cases hlt : n < l.length
    · obtain ⟨p, hp⟩ := Pl.some_of_lt hlt
      obtain ⟨b, u, rfl, hc0, hr0⟩ := HR.out n p hp
      have j0 := (HUB.out.trans HU.out).cell hc0
      obtain ⟨ao2, cap2, rfl, hr1⟩ := id hr0
      have HRD := hide hr0
      have I1 := HI.out p (Pl.mem_of_some hp)
      have L2 := Mk.ring_le HO.out I1
      have HI1 := hide I1
      clear hc0 hr0 hr1 I1
      have HS := hide (Mk.listT_step m m.ring (i := n) hp)
      have L1 := Mk.gap_le HO.out n
      obtain ⟨C, hC⟩ : ∃ C, C = m.gap n := ⟨_, rfl⟩
      obtain ⟨X, hX⟩ : ∃ X, X = m.ring p := ⟨_, rfl⟩
      rw [← hC] at L1
      rw [← hX] at L2
      have HS' : Hid (m.listT m.ring 0 l = (t ++ C ++ X) ++ m.listT m.ring (n + 1) (l.drop (n + 1))) := by
        rw [HL.out, HS.out, hC, hX]
        simp [Hid]
      have HC := hide hC
      have HX := hide hX
      clear HS HL hC hX hp
      have q1 := bs_append t C
      have q2 := bs_append (t ++ C) X
      have z0 := bs_size t
      have z1 := bs_size C
      have z2 := bs_size X
      have z4 := bs_size (t ++ C)
      simp only [List.append_assoc, List.length_append, List.length_cons, List.length_nil] at q1 q2 z4 HS'
      go_wp2_with fail
      refine (mgap_any m n _).mono ?_
      rintro e w1 ⟨rfl, u1⟩
      rw [← HC.out]
      have HU1 : Hid (Up wB w1) := HU.out.trans u1
      clear u1 k0 k1 k2 k3 k4 k5
      have k0 := HU1.out.cell (HM.out.cell (i := 0) rfl)
      have k1 := HU1.out.cell (HM.out.cell (i := 1) rfl)
      have k2 := HU1.out.cell (HM.out.cell (i := 2) rfl)
      have k3 := HU1.out.cell (HM.out.cell (i := 3) rfl)
      have k4 := HU1.out.cell (HM.out.cell (i := 4) rfl)
      have k5 := HU1.out.cell (HM.out.cell (i := 5) rfl)
      go_wp2_with fail
      refine (mring_any m HO.out _ p _ (HRD.out.up (HUB.out.trans HU1.out)) HI1.out (HT.out.up (HUB.out.trans HU1.out))).mono ?_
      rintro e w2 ⟨rfl, u2⟩
      rw [← HX.out]
      have HU2 : Hid (Up wB w2) := HU1.out.trans u2
      clear u2
      go_wp2
      go_roundw
      case rel => exact ⟨n + 1, t ++ C ++ X, by omega, by go_num, by simp, by simp; omega, by simpa [Hid] using HS'.out, HU2⟩
      case measure => simp [intOf]; omega
    · have HS : Hid (m.listT m.ring 0 l = t) := by rw [HL.out, Mk.listT_end _ _ hlt, List.append_nil]; exact rfl
      have HE : Hid (m.poly l = m.o ++ (t ++ m.s)) := by show m.list m.ring l = _; unfold Mk.list; rw [HS.out]
      clear HL HS
      have z0 := bs_size t
      have z1 := bs_size m.o
      have z2 := bs_size m.s
      have q1 := bs_append m.o t
      have z3 := bs_size (m.o ++ t)
      have q2 := bs_append (m.o ++ t) m.s
      simp only [List.append_assoc, List.length_append] at q1 q2 z3
      go_wp2
      go_ret
      rw [HE.out]
      exact ⟨by simp, HUB.out.trans HU.out⟩

set_option maxRecDepth 100000 in
set_option maxHeartbeats 4000000 in
theorem mset_any (m : Mk) (hm : m.ok) (v : Value) (l : Mult) (w : World) (hv : Rd3 w v l) (hi : Bn.okM l) (ht : Tab w) :
    Calls Tryz.prog 146 #[.agg #[.string (bs m.o), .string (bs m.c), .string (bs m.s), .string (bs m.a), .string (bs m.b), .string (bs m.d)], v] w fun e w' => e = .returned (.string (bs (m.set l))) ∧ Up w w' := by
  have HT := hide ht
  obtain ⟨hl, hi⟩ := hi
  have HI := hide hi
  have HO := hide hm
  clear ht hi
  obtain ⟨ao, cap, rfl, hr⟩ := hv
  have HR := hide hr
  clear hr
  have HM := hide (VRow.new w m.cells 174)
  have HUB := hide ((Up.refl w).alloc (.cells m.cells.toArray 174))
  obtain ⟨wB, hwB⟩ : ∃ wB, wB = w.alloc (.cells m.cells.toArray 174) := ⟨_, rfl⟩
  have lo := hm.o
  have ls := hm.s
  clear hm
  go_enter Tryz.func146, Tryz.ntmps146
  go_wp2_with fail
  go_loopw [5, 10] (fun s i wr => ∃ (n : Nat) (t : List UInt8), n ≤ l.length ∧ i = .int .i64 n ∧ s = .string (bs t) ∧ t.length ≤ n * 300000000100 ∧ Hid (m.listT m.poly 0 l = t ++ m.listT m.poly n (l.drop n)) ∧ Hid (Up wB wr)) (fun _ i _ => l.length - (intOf i).toNat)
  case atStart => exact ⟨0, [], by omega, rfl, rfl, by simp, by simp [Hid], by rw [hwB]; exact Up.refl _⟩
  case round =>
    obtain ⟨wo, hw⟩ : ∃ x, x = wr := ⟨_, rfl⟩
    subst hw
    obtain ⟨n, t, hn, rfl, rfl, htl, HL, HU⟩ := hrel
    rw [← hwB] at HM HUB
    have k0 := HU.out.cell (HM.out.cell (i := 0) rfl)
    have k1 := HU.out.cell (HM.out.cell (i := 1) rfl)
    have k2 := HU.out.cell (HM.out.cell (i := 2) rfl)
    have k3 := HU.out.cell (HM.out.cell (i := 3) rfl)
    have k4 := HU.out.cell (HM.out.cell (i := 4) rfl)
    have k5 := HU.out.cell (HM.out.cell (i := 5) rfl)
    by_cases hlt : n < l.length
    · obtain ⟨p, hp⟩ := Pl.some_of_lt hlt
      obtain ⟨b, u, rfl, hc0, hr0⟩ := HR.out n p hp
      have j0 := (HUB.out.trans HU.out).cell hc0
      obtain ⟨ao2, cap2, rfl, hr1⟩ := id hr0
      have HRD := hide hr0
      have I1 := HI.out p (Pl.mem_of_some hp)
      have L2 := Mk.poly_le HO.out I1
      have HI1 := hide I1
      clear hc0 hr0 hr1 I1
      have HS := hide (Mk.listT_step m m.poly (i := n) hp)
      have L1 := Mk.gap_le HO.out n
      obtain ⟨C, hC⟩ : ∃ C, C = m.gap n := ⟨_, rfl⟩
      obtain ⟨X, hX⟩ : ∃ X, X = m.poly p := ⟨_, rfl⟩
      rw [← hC] at L1
      rw [← hX] at L2
      have HS' : Hid (m.listT m.poly 0 l = (t ++ C ++ X) ++ m.listT m.poly (n + 1) (l.drop (n + 1))) := by
        rw [HL.out, HS.out, hC, hX]
        simp [Hid]
      have HC := hide hC
      have HX := hide hX
      clear HS HL hC hX hp
      have q1 := bs_append t C
      have q2 := bs_append (t ++ C) X
      have z0 := bs_size t
      have z1 := bs_size C
      have z2 := bs_size X
      have z4 := bs_size (t ++ C)
      simp only [List.append_assoc, List.length_append, List.length_cons, List.length_nil] at q1 q2 z4 HS'
      go_wp2_with fail
      refine (mgap_any m n _).mono ?_
      rintro e w1 ⟨rfl, u1⟩
      rw [← HC.out]
      have HU1 : Hid (Up wB w1) := HU.out.trans u1
      clear u1 k0 k1 k2 k3 k4 k5
      have k0 := HU1.out.cell (HM.out.cell (i := 0) rfl)
      have k1 := HU1.out.cell (HM.out.cell (i := 1) rfl)
      have k2 := HU1.out.cell (HM.out.cell (i := 2) rfl)
      have k3 := HU1.out.cell (HM.out.cell (i := 3) rfl)
      have k4 := HU1.out.cell (HM.out.cell (i := 4) rfl)
      have k5 := HU1.out.cell (HM.out.cell (i := 5) rfl)
      go_wp2_with fail
      refine (mpoly_any m HO.out _ p _ (HRD.out.up (HUB.out.trans HU1.out)) HI1.out (HT.out.up (HUB.out.trans HU1.out))).mono ?_
      rintro e w2 ⟨rfl, u2⟩
      rw [← HX.out]
      have HU2 : Hid (Up wB w2) := HU1.out.trans u2
      clear u2
      go_wp2
      go_roundw
      case rel => exact ⟨n + 1, t ++ C ++ X, by omega, by go_num, by simp, by simp; omega, by simpa [Hid] using HS'.out, HU2⟩
      case measure => simp [intOf]; omega
    · have HS : Hid (m.listT m.poly 0 l = t) := by rw [HL.out, Mk.listT_end _ _ hlt, List.append_nil]; exact rfl
      have HE : Hid (m.set l = m.o ++ (t ++ m.s)) := by show m.list m.poly l = _; unfold Mk.list; rw [HS.out]
      clear HL HS
      have z0 := bs_size t
      have z1 := bs_size m.o
      have z2 := bs_size m.s
      have q1 := bs_append m.o t
      have z3 := bs_size (m.o ++ t)
      have q2 := bs_append (m.o ++ t) m.s
      simp only [List.append_assoc, List.length_append] at q1 q2 z3
      go_wp2
      go_ret
      rw [HE.out]
      exact ⟨by simp, HUB.out.trans HU.out⟩
end Go.Proofs.YtcclepohmhdpbaaGreatDoor

/- THE PROGRAM's TEXTS, WRITTEN: Write. -/
namespace Go.Proofs.YtcclepohmhdpbaaGreatDoor
set_option linter.all false
open Go.RowKit Go.Deep

namespace Mk
def wkt : Mk := ⟨[40], [44, 32], [41], [], [32], []⟩
def word : List UInt8 := [77, 85, 76, 84, 73, 80, 79, 76, 89, 71, 79, 78, 32]
def none : List UInt8 := [77, 85, 76, 84, 73, 80, 79, 76, 89, 71, 79, 78, 32, 69, 77, 80, 84, 89]
theorem wkt_ok : wkt.ok := ⟨by decide, by decide, by decide, by decide, by decide, by decide⟩
/-- A set as text. -/
def setW (m : Mult) : List UInt8 := if m.length = 0 then none else word ++ wkt.set m
theorem set_le {m : Mk} (h : m.ok) {l : Mult} (hl : Bn.okM l) : (m.set l).length ≤ 3000000000000000 := by
  have h1 := listT_le h m.poly 300000000000 l 0 fun r hr => poly_le h (hl.2 r hr)
  have := hl.1
  have := h.o
  have := h.s
  simp only [set, list, List.length_append]
  omega
end Mk

set_option maxRecDepth 100000 in
set_option maxHeartbeats 2000000 in
theorem tWrite_any (v : Value) (m : Mult) (w : World) (hv : Rd3 w v m) (hi : Bn.okM m) (ht : Tab w) :
    Calls Tryz.prog 106 #[v] w fun e w' => e = .returned (.string (bs (Mk.setW m))) ∧ Up w w' := by
  have HV := hide hv
  have HI := hide hi
  have HT := hide ht
  have hml := hi.1
  obtain ⟨ao, cap, rfl, -⟩ := hv
  clear hi ht
  by_cases h0 : m.length = 0
  · have HE := hide (show Mk.setW m = Mk.none by unfold Mk.setW; rw [if_pos h0])
    go_enter Tryz.func106, Tryz.ntmps106
    go_wp2
    go_ret
    rw [HE.out]
    exact ⟨rfl, Up.refl w⟩
  · have h0' : ((m.length : Int) == 0) = false := beq_eq_false_iff_ne.2 (by omega)
    have HE := hide (show Mk.setW m = Mk.word ++ Mk.wkt.set m by unfold Mk.setW; rw [if_neg h0])
    have L := Mk.set_le Mk.wkt_ok HI.out
    have HS := hide (fun (w' : World) (u : Up w w') => mset_any Mk.wkt Mk.wkt_ok _ m w' (HV.out.up u) HI.out (HT.out.up u))
    obtain ⟨X, hX⟩ : ∃ X, X = Mk.wkt.set m := ⟨_, rfl⟩
    rw [← hX] at HS HE L
    have L' : (X.length : Int) ≤ 3000000000000000 := by omega
    have z := bs_size X
    have q : ByteArray.mk #[77, 85, 76, 84, 73, 80, 79, 76, 89, 71, 79, 78, 32] ++ bs X = bs (Mk.word ++ X) := bs_append Mk.word X
    clear h0 hX L
    go_enter Tryz.func106, Tryz.ntmps106
    go_wp2_with fail
    refine (HS.out _ ((Up.refl w).alloc _)).mono ?_
    rintro e w1 ⟨rfl, u1⟩
    replace u1 := hide u1
    go_wp2
    go_ret
    rw [HE.out]
    exact ⟨rfl, ((Up.refl w).alloc _).trans u1.out⟩

set_option maxHeartbeats 1000000 in
theorem write0_any (v : Value) (m : Mult) (w : World) (hv : Rd3 w v m) (hi : Bn.okM m) (ht : Tab w) :
    Calls Tryz.prog 65 #[v, .int .i64 0, .int .i64 0] w fun e w' => e = .returned (.string (bs (Mk.setW m))) ∧ Up w w' := by
  have HW := hide (tWrite_any v m w hv hi ht)
  obtain ⟨ao, cap, rfl, hm⟩ := hv
  clear hm hi ht
  go_enter Tryz.func65, Tryz.ntmps65
  go_wp2_with (go_at_call 106; refine HW.out.mono ?_; rintro e w1 ⟨rfl, u1⟩; replace u1 := hide u1)
  go_ret
  exact ⟨rfl, u1.out⟩
end Go.Proofs.YtcclepohmhdpbaaGreatDoor
