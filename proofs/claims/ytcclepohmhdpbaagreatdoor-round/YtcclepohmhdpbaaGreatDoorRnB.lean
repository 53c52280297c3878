import Derived.Test.YtcclepohmhdpbaaGreatDoorTxI
import Derived.Test.YtcclepohmhdpbaaGreatDoorWalkI
import Derived.Test.YtcclepohmhdpbaaGreatDoorBnMath
import Derived.Test.YtcclepohmhdpbaaGreatDoorJsD
/- THE PROGRAM's TEXTS, WRITTEN: lists with their marks. -/
namespace Go.Proofs.YtcclepohmhdpbaaGreatDoor
set_option linter.all false
open Go.RowKit Go.Deep

theorem Tab.up {w w' : World} (h : Tab w) (k : Up w w') : Tab w' := by
  unfold Tab Lib.TabIs World.var? at *
  generalize Tryz.prog.globalNamed "internal/strconv.uint64pow10" = o at *
  cases o with
  | none => simp at h
  | some g =>
    simp only [Option.bind_some] at h ⊢
    have hg : g < w.heap.size := by
      rcases Nat.lt_or_ge g w.heap.size with e | e
      · exact e
      · rw [Array.getElem?_eq_none e] at h; simp at h
    rw [k.block g hg]
    exact h

/-- What a format writes around things and between them. -/
structure Mk where
  o : List UInt8
  c : List UInt8
  s : List UInt8
  a : List UInt8
  b : List UInt8
  d : List UInt8
def Mk.cells (m : Mk) : List Value := [.string (bs m.o), .string (bs m.c), .string (bs m.s), .string (bs m.a), .string (bs m.b), .string (bs m.d)]
structure Mk.ok (m : Mk) : Prop where
  o : m.o.length ≤ 9
  c : m.c.length ≤ 9
  s : m.s.length ≤ 9
  a : m.a.length ≤ 9
  b : m.b.length ≤ 9
  d : m.d.length ≤ 9
namespace Mk
def gap (m : Mk) (i : Nat) : List UInt8 := if i = 0 then [] else m.c
def pt (m : Mk) (p : Pnt) : List UInt8 := m.a ++ Tx.txt p.1 ++ m.b ++ Tx.txt p.2 ++ m.d
def listT {α : Type} (m : Mk) (f : α → List UInt8) (i : Nat) : List α → List UInt8
  | [] => []
  | x :: t => m.gap i ++ f x ++ listT m f (i + 1) t
def list {α : Type} (m : Mk) (f : α → List UInt8) (l : List α) : List UInt8 := m.o ++ (listT m f 0 l ++ m.s)
def ring (m : Mk) : Ring → List UInt8 := m.list m.pt
def poly (m : Mk) : Poly → List UInt8 := m.list m.ring
def set (m : Mk) : Mult → List UInt8 := m.list m.poly
theorem listT_step {α : Type} (m : Mk) (f : α → List UInt8) {l : List α} {n i : Nat} {a : α} (h : l[n]? = some a) : listT m f i (l.drop n) = m.gap i ++ f a ++ listT m f (i + 1) (l.drop (n + 1)) := by
  have hn : n < l.length := Pl.lt_of_some h
  rw [List.drop_eq_getElem_cons hn]
  have : l[n] = a := by rw [List.getElem?_eq_getElem hn] at h; exact Option.some.inj h
  rw [this]; rfl
theorem listT_end {α : Type} (m : Mk) (f : α → List UInt8) {l : List α} {n i : Nat} (h : ¬ n < l.length) : listT m f i (l.drop n) = [] := by
  rw [List.drop_of_length_le (Nat.le_of_not_lt h)]; rfl
theorem gap_le {m : Mk} (h : m.ok) (i : Nat) : (m.gap i).length ≤ 9 := by unfold gap; split; · simp
                                                                          · exact h.c
theorem txt_le {x : Int} (h1 : -32768 ≤ x) (h2 : x ≤ 32768) : (Tx.txt x).length ≤ 3000 := by
  unfold Tx.txt
  have a := Tx.part_le (x.natAbs % 16)
  have b : (Lib.decDigits (x.natAbs / 16)).length ≤ 2100 := by rw [Lib.decDigits_length]; have := nDigits_le (x.natAbs / 16); omega
  have c : (if x < 0 then [45] else [] : List UInt8).length ≤ 1 := by split <;> simp
  simp only [List.length_append]
  omega
theorem listT_le {α : Type} {m : Mk} (h : m.ok) (f : α → List UInt8) (b : Nat) : ∀ (l : List α) (i : Nat), (∀ x ∈ l, (f x).length ≤ b) → (listT m f i l).length ≤ l.length * (9 + b)
  | [], i, _ => by simp [listT]
  | x :: t, i, hx => by
    have h1 := listT_le h f b t (i + 1) fun y hy => hx y (List.mem_cons_of_mem _ hy)
    have h2 := hx x (by simp)
    have h3 := gap_le h i
    simp only [listT, List.length_append, List.length_cons, Nat.add_mul]
    omega
theorem pt_le {m : Mk} (h : m.ok) {p : Pnt} (hp : (-32768 ≤ p.1 ∧ p.1 ≤ 32768) ∧ -32768 ≤ p.2 ∧ p.2 ≤ 32768) : (m.pt p).length ≤ 6100 := by
  have h1 := txt_le hp.1.1 hp.1.2
  have h2 := txt_le hp.2.1 hp.2.2
  have := h.a
  have := h.b
  have := h.d
  simp only [pt, List.length_append]
  omega
theorem ring_le {m : Mk} (h : m.ok) {r : Ring} (hr : Bn.okR r) : (m.ring r).length ≤ 40000000 := by
  have h1 := listT_le h m.pt 6100 r 0 fun p hp => pt_le h (hr.2 p hp)
  have := hr.1
  have := h.o
  have := h.s
  simp only [ring, list, List.length_append]
  omega
theorem poly_le {m : Mk} (h : m.ok) {l : Poly} (hl : Bn.okL l) : (m.poly l).length ≤ 300000000000 := by
  have h1 := listT_le h m.ring 40000000 l 0 fun r hr => ring_le h (hl.2 r hr)
  have := hl.1
  have := h.o
  have := h.s
  simp only [poly, list, List.length_append]
  omega
end Mk

set_option maxHeartbeats 1000000 in
theorem mgap_any (m : Mk) (i : Nat) (w : World) :
    Calls Tryz.prog 191 #[.agg #[.string (bs m.o), .string (bs m.c), .string (bs m.s), .string (bs m.a), .string (bs m.b), .string (bs m.d)], .int .i64 i] w fun e w' => e = .returned (.string (bs (m.gap i))) ∧ Up w w' := by
  by_cases h : i = 0
  · subst h
    go_enter Tryz.func191, Tryz.ntmps191
    go_wp2
    go_ret
    exact ⟨rfl, (Up.refl w).alloc _⟩
  · have h' : ((i : Int) == 0) = false := beq_eq_false_iff_ne.2 (by omega)
    have HC := hide (show m.gap i = m.c by simp [Mk.gap, h])
    go_enter Tryz.func191, Tryz.ntmps191
    go_wp2
    go_ret
    exact ⟨by rw [HC.out]; rfl, (Up.refl w).alloc _⟩

set_option maxRecDepth 100000 in
set_option maxHeartbeats 2000000 in
theorem mpoint_any (m : Mk) (hm : m.ok) (px py : Int) (w : World) (x1 : -32768 ≤ px) (x2 : px ≤ 32768) (y1 : -32768 ≤ py) (y2 : py ≤ 32768) (ht : Tab w) :
    Calls Tryz.prog 252 #[.agg #[.string (bs m.o), .string (bs m.c), .string (bs m.s), .string (bs m.a), .string (bs m.b), .string (bs m.d)], .agg #[.int .i64 px, .int .i64 py]] w fun e w' => e = .returned (.string (bs (m.pt (px, py)))) ∧ Up w w' := by
  have HT := hide ht
  clear ht
  have L1 := Mk.txt_le x1 x2
  have L2 := Mk.txt_le y1 y2
  have HE : Hid (m.pt (px, py) = m.a ++ Tx.txt px ++ m.b ++ Tx.txt py ++ m.d) := rfl
  obtain ⟨X, hX⟩ : ∃ X, X = Tx.txt px := ⟨_, rfl⟩
  obtain ⟨Y, hY⟩ : ∃ Y, Y = Tx.txt py := ⟨_, rfl⟩
  rw [← hX] at L1 HE
  rw [← hY] at L2 HE
  have HX := hide hX
  have HY := hide hY
  clear hX hY
  have la := hm.a
  have lb := hm.b
  have ld := hm.d
  have z0 := bs_size m.a
  have z1 := bs_size X
  have z2 := bs_size m.b
  have z3 := bs_size Y
  have z4 := bs_size m.d
  have q1 := bs_append m.a X
  have z5 := bs_size (m.a ++ X)
  have q2 := bs_append (m.a ++ X) m.b
  have z6 := bs_size (m.a ++ X ++ m.b)
  have q3 := bs_append (m.a ++ X ++ m.b) Y
  have z7 := bs_size (m.a ++ X ++ m.b ++ Y)
  have q4 := bs_append (m.a ++ X ++ m.b ++ Y) m.d
  simp only [List.append_assoc, List.length_append] at q1 q2 q3 q4 z5 z6 z7
  have uB := ((Up.refl w).alloc (.cells #[.string (bs m.o), .string (bs m.c), .string (bs m.s), .string (bs m.a), .string (bs m.b), .string (bs m.d)] 174)).alloc (.cells #[.int .i64 px, .int .i64 py] 32)
  have hM := (VRow.new w m.cells 174).alloc (.cells #[.int .i64 px, .int .i64 py] 32)
  have hP : VRow ((w.alloc (.cells #[.string (bs m.o), .string (bs m.c), .string (bs m.s), .string (bs m.a), .string (bs m.b), .string (bs m.d)] 174)).alloc (.cells #[.int .i64 px, .int .i64 py] 32)) (w.heap.size + 1) 32 [.int .i64 px, .int .i64 py] := by
    have := VRow.new (w.alloc (.cells #[.string (bs m.o), .string (bs m.c), .string (bs m.s), .string (bs m.a), .string (bs m.b), .string (bs m.d)] 174)) [.int .i64 px, .int .i64 py] 32
    simpa using this
  have HM := hide hM
  have HPR := hide hP
  have HUB := hide uB
  clear hM hP uB hm
  go_enter Tryz.func252, Tryz.ntmps252
  go_wp2_with fail
  refine (Text_any px _ x1 x2 (HT.out.up HUB.out)).mono ?_
  rintro e w1 ⟨rfl, u1⟩
  rw [← HX.out]
  have p1 := u1.cell (HPR.out.cell (i := 1) rfl)
  have HU1 := hide (HUB.out.trans u1)
  have HV1 := hide u1
  clear u1
  go_wp2_with fail
  refine (Text_any py _ y1 y2 (HT.out.up HU1.out)).mono ?_
  rintro e w2 ⟨rfl, u2⟩
  rw [← HY.out]
  have c3 := (HV1.out.trans u2).cell (HM.out.cell (i := 3) rfl)
  have c4 := (HV1.out.trans u2).cell (HM.out.cell (i := 4) rfl)
  have c5 := (HV1.out.trans u2).cell (HM.out.cell (i := 5) rfl)
  have HU2 := hide (HU1.out.trans u2)
  clear u2 p1
  go_wp2
  go_ret
  rw [HE.out]
  exact ⟨by simp, HU2.out⟩
end Go.Proofs.YtcclepohmhdpbaaGreatDoor

/- THE PROGRAM's TEXTS, WRITTEN: rings, polygons, sets. -/
namespace Go.Proofs.YtcclepohmhdpbaaGreatDoor
set_option linter.all false
open Go.RowKit Go.Deep

set_option maxRecDepth 100000 in
set_option maxHeartbeats 4000000 in
theorem mring_any (m : Mk) (hm : m.ok) (v : Value) (l : Ring) (w : World) (hv : Rd1 w v l) (hi : Bn.okR l) (ht : Tab w) :
    Calls Tryz.prog 232 #[.agg #[.string (bs m.o), .string (bs m.c), .string (bs m.s), .string (bs m.a), .string (bs m.b), .string (bs m.d)], v] w fun e w' => e = .returned (.string (bs (m.ring l))) ∧ Up w w' := by
  have HT := hide ht
  obtain ⟨hl, hi⟩ := hi
  have HI := hide hi
  have HO := hide hm
  clear ht hi
  obtain ⟨ao, cap, rfl, hr⟩ := hv
  have HR := hide hr
  clear hr
  have HM := hide (VRow.new w m.cells 174)
  have HUB := hide ((Up.refl w).alloc (.cells m.cells.toArray 174))
  obtain ⟨wB, hwB⟩ : ∃ wB, wB = w.alloc (.cells m.cells.toArray 174) := ⟨_, rfl⟩
  have lo := hm.o
  have ls := hm.s
  clear hm
  go_enter Tryz.func232, Tryz.ntmps232
  go_wp2_with fail
  go_loopw [5, 10] (fun s i wr => ∃ (n : Nat) (t : List UInt8), n ≤ l.length ∧ i = .int .i64 n ∧ s = .string (bs t) ∧ t.length ≤ n * 6200 ∧ Hid (m.listT m.pt 0 l = t ++ m.listT m.pt n (l.drop n)) ∧ Hid (Up wB wr)) (fun _ i _ => l.length - (intOf i).toNat)
  case atStart => exact ⟨0, [], by omega, rfl, rfl, by simp, by simp [Hid], by rw [hwB]; exact Up.refl _⟩
  case round =>
    obtain ⟨wo, hw⟩ : ∃ x, x = wr := ⟨_, rfl⟩
    subst hw
    obtain ⟨n, t, hn, rfl, rfl, htl, HL, HU⟩ := hrel
    rw [← hwB] at HM HUB
    have k0 := HU.out.cell (HM.out.cell (i := 0) rfl)
    have k1 := HU.out.cell (HM.out.cell (i := 1) rfl)
    have k2 := HU.out.cell (HM.out.cell (i := 2) rfl)
    have k3 := HU.out.cell (HM.out.cell (i := 3) rfl)
    have k4 := HU.out.cell (HM.out.cell (i := 4) rfl)
    have k5 := HU.out.cell (HM.out.cell (i := 5) rfl)
    by_cases hlt : n < l.length
    · obtain ⟨p, hp⟩ := Pl.some_of_lt hlt
      obtain ⟨px, py⟩ := p
      obtain ⟨b, rfl, hc0, hc1⟩ := HR.out n (px, py) hp
      have j0 := (HUB.out.trans HU.out).cell hc0
      have j1 := (HUB.out.trans HU.out).cell hc1
      obtain ⟨⟨x1, x2⟩, y1, y2⟩ := HI.out (px, py) (Pl.mem_of_some hp)
      have L2 := Mk.pt_le HO.out (p := (px, py)) ⟨⟨x1, x2⟩, y1, y2⟩
      dsimp only at *
      have HPV := hide (VRow.new wo [.int .i64 px, .int .i64 py] 32)
      have HUA := hide (HU.out.alloc (.cells #[.int .i64 px, .int .i64 py] 32))
      have a0 := HUA.out.cell (HM.out.cell (i := 0) rfl)
      have a1 := HUA.out.cell (HM.out.cell (i := 1) rfl)
      have a2 := HUA.out.cell (HM.out.cell (i := 2) rfl)
      have a3 := HUA.out.cell (HM.out.cell (i := 3) rfl)
      have a4 := HUA.out.cell (HM.out.cell (i := 4) rfl)
      have a5 := HUA.out.cell (HM.out.cell (i := 5) rfl)
      clear hc0 hc1
      have HS := hide (Mk.listT_step m m.pt (i := n) hp)
      have L1 := Mk.gap_le HO.out n
      obtain ⟨C, hC⟩ : ∃ C, C = m.gap n := ⟨_, rfl⟩
      obtain ⟨X, hX⟩ : ∃ X, X = m.pt (px, py) := ⟨_, rfl⟩
      rw [← hC] at L1
      rw [← hX] at L2
      have HS' : Hid (m.listT m.pt 0 l = (t ++ C ++ X) ++ m.listT m.pt (n + 1) (l.drop (n + 1))) := by
        rw [HL.out, HS.out, hC, hX]
        simp [Hid]
      have HC := hide hC
      have HX := hide hX
      clear HS HL hC hX hp
      have q1 := bs_append t C
      have q2 := bs_append (t ++ C) X
      have z0 := bs_size t
      have z1 := bs_size C
      have z2 := bs_size X
      have z4 := bs_size (t ++ C)
      simp only [List.append_assoc, List.length_append, List.length_cons, List.length_nil] at q1 q2 z4 HS'
      go_wp2_with fail
      refine (mgap_any m n _).mono ?_
      rintro e w1 ⟨rfl, u1⟩
      rw [← HC.out]
      have r0 := u1.cell (HPV.out.cell (i := 0) rfl)
      have r1 := u1.cell (HPV.out.cell (i := 1) rfl)
      have HU1 : Hid (Up wB w1) := HUA.out.trans u1
      clear u1 k0 k1 k2 k3 k4 k5
      have k0 := HU1.out.cell (HM.out.cell (i := 0) rfl)
      have k1 := HU1.out.cell (HM.out.cell (i := 1) rfl)
      have k2 := HU1.out.cell (HM.out.cell (i := 2) rfl)
      have k3 := HU1.out.cell (HM.out.cell (i := 3) rfl)
      have k4 := HU1.out.cell (HM.out.cell (i := 4) rfl)
      have k5 := HU1.out.cell (HM.out.cell (i := 5) rfl)
      clear a0 a1 a2 a3 a4 a5 j0 j1
      go_wp2_with fail
      refine (mpoint_any m HO.out px py _ x1 x2 y1 y2 (HT.out.up (HUB.out.trans HU1.out))).mono ?_
      rintro e w2 ⟨rfl, u2⟩
      rw [← HX.out]
      have HU2 : Hid (Up wB w2) := HU1.out.trans u2
      clear u2
      go_wp2
      go_roundw
      case rel => exact ⟨n + 1, t ++ C ++ X, by omega, by go_num, by simp, by simp; omega, by simpa [Hid] using HS'.out, HU2⟩
      case measure => simp [intOf]; omega
    · have HS : Hid (m.listT m.pt 0 l = t) := by rw [HL.out, Mk.listT_end _ _ hlt, List.append_nil]; exact rfl
      have HE : Hid (m.ring l = m.o ++ (t ++ m.s)) := by show m.list m.pt l = _; unfold Mk.list; rw [HS.out]
      clear HL HS
      have z0 := bs_size t
      have z1 := bs_size m.o
      have z2 := bs_size m.s
      have q1 := bs_append m.o t
      have z3 := bs_size (m.o ++ t)
      have q2 := bs_append (m.o ++ t) m.s
      simp only [List.append_assoc, List.length_append] at q1 q2 z3
      go_wp2
      go_ret
      rw [HE.out]
      exact ⟨by simp, HUB.out.trans HU.out⟩

set_option maxRecDepth 100000 in
set_option maxHeartbeats 4000000 in
theorem mpoly_any (m : Mk) (hm : m.ok) (v : Value) (l : Poly) (w : World) (hv : Rd2 w v l) (hi : Bn.okL l) (ht : Tab w) :
    Calls Tryz.prog 192 #[.agg #[.string (bs m.o), .string (bs m.c), .string (bs m.s), .string (bs m.a), .string (bs m.b), .string (bs m.d)], v] w fun e w' => e = .returned (.string (bs (m.poly l))) ∧ Up w w' := by
  have HT := hide ht
  obtain ⟨hl, hi⟩ := hi
  have HI := hide hi
  have HO := hide hm
  clear ht hi
  obtain ⟨ao, cap, rfl, hr⟩ := hv
  have HR := hide hr
  clear hr
  have HM := hide (VRow.new w m.cells 174)
  have HUB := hide ((Up.refl w).alloc (.cells m.cells.toArray 174))
  obtain ⟨wB, hwB⟩ : ∃ wB, wB = w.alloc (.cells m.cells.toArray 174) := ⟨_, rfl⟩
  have lo := hm.o
  have ls := hm.s
  clear hm
  go_enter Tryz.func192, Tryz.ntmps192
  go_wp2_with fail
  go_loopw [5, 10] (fun s i wr => ∃ (n : Nat) (t : List UInt8), n ≤ l.length ∧ i = .int .i64 n ∧ s = .string (bs t) ∧ t.length ≤ n * 40000100 ∧ Hid (m.listT m.ring 0 l = t ++ m.listT m.ring n (l.drop n)) ∧ Hid (Up wB wr)) (fun _ i _ => l.length - (intOf i).toNat)
  case atStart => exact ⟨0, [], by omega, rfl, rfl, by simp, by simp [Hid], by rw [hwB]; exact Up.refl _⟩
  case round =>
    obtain ⟨wo, hw⟩ : ∃ x, x = wr := ⟨_, rfl⟩
    subst hw
    obtain ⟨n, t, hn, rfl, rfl, htl, HL, HU⟩ := hrel
    rw [← hwB] at HM HUB
    have k0 := HU.out.cell (HM.out.cell (i := 0) rfl)
    have k1 := HU.out.cell (HM.out.cell (i := 1) rfl)
    have k2 := HU.out.cell (HM.out.cell (i := 2) rfl)
    have k3 := HU.out.cell (HM.out.cell (i := 3) rfl)
    have k4 := HU.out.cell (HM.out.cell (i := 4) rfl)
    have k5 := HU.out.cell (HM.out.cell (i := 5) rfl)
    by_cases hlt : n < l.length
    · obtain ⟨p, hp⟩ := Pl.some_of_lt hlt
      obtain ⟨b, u, rfl, hc0, hr0⟩ := HR.out n p hp
      have j0 := (HUB.out.trans HU.out).cell hc0
      obtain ⟨ao2, cap2, rfl, hr1⟩ := id hr0
      have HRD := hide hr0
      have I1 := HI.out p (Pl.mem_of_some hp)
      have L2 := Mk.ring_le HO.out I1
      have HI1 := hide I1
      clear hc0 hr0 hr1 I1
      have HS := hide (Mk.listT_step m m.ring (i := n) hp)
      have L1 := Mk.gap_le HO.out n
      obtain ⟨C, hC⟩ : ∃ C, C = m.gap n := ⟨_, rfl⟩
      obtain ⟨X, hX⟩ : ∃ X, X = m.ring p := ⟨_, rfl⟩
      rw [← hC] at L1
      rw [← hX] at L2
      have HS' : Hid (m.listT m.ring 0 l = (t ++ C ++ X) ++ m.listT m.ring (n + 1) (l.drop (n + 1))) := by
        rw [HL.out, HS.out, hC, hX]
        simp [Hid]
      have HC := hide hC
      have HX := hide hX
      clear HS HL hC hX hp
      have q1 := bs_append t C
      have q2 := bs_append (t ++ C) X
      have z0 := bs_size t
      have z1 := bs_size C
      have z2 := bs_size X
      have z4 := bs_size (t ++ C)
      simp only [List.append_assoc, List.length_append, List.length_cons, List.length_nil] at q1 q2 z4 HS'
      go_wp2_with fail
      refine (mgap_any m n _).mono ?_
      rintro e w1 ⟨rfl, u1⟩
      rw [← HC.out]
      have HU1 : Hid (Up wB w1) := HU.out.trans u1
      clear u1 k0 k1 k2 k3 k4 k5
      have k0 := HU1.out.cell (HM.out.cell (i := 0) rfl)
      have k1 := HU1.out.cell (HM.out.cell (i := 1) rfl)
      have k2 := HU1.out.cell (HM.out.cell (i := 2) rfl)
      have k3 := HU1.out.cell (HM.out.cell (i := 3) rfl)
      have k4 := HU1.out.cell (HM.out.cell (i := 4) rfl)
      have k5 := HU1.out.cell (HM.out.cell (i := 5) rfl)
      go_wp2_with fail
      refine (mring_any m HO.out _ p _ (HRD.out.up (HUB.out.trans HU1.out)) HI1.out (HT.out.up (HUB.out.trans HU1.out))).mono ?_
      rintro e w2 ⟨rfl, u2⟩
      rw [← HX.out]
      have HU2 : Hid (Up wB w2) := HU1.out.trans u2
      clear u2
      go_wp2
      go_roundw
      case rel => exact ⟨n + 1, t ++ C ++ X, by omega, by go_num, by simp, by simp; omega, by simpa [Hid] using HS'.out, HU2⟩
      case measure => simp [intOf]; omega
    · have HS : Hid (m.listT m.ring 0 l = t) := by rw [HL.out, Mk.listT_end _ _ hlt, List.append_nil]; exact rfl
      have HE : Hid (m.poly l = m.o ++ (t ++ m.s)) := by show m.list m.ring l = _; unfold Mk.list; rw [HS.out]
      clear HL HS
      have z0 := bs_size t
      have z1 := bs_size m.o
      have z2 := bs_size m.s
      have q1 := bs_append m.o t
      have z3 := bs_size (m.o ++ t)
      have q2 := bs_append (m.o ++ t) m.s
      simp only [List.append_assoc, List.length_append] at q1 q2 z3
      go_wp2
      go_ret
      rw [HE.out]
      exact ⟨by simp, HUB.out.trans HU.out⟩

set_option maxRecDepth 100000 in
set_option maxHeartbeats 4000000 in
theorem mset_any (m : Mk) (hm : m.ok) (v : Value) (l : Mult) (w : World) (hv : Rd3 w v l) (hi : Bn.okM l) (ht : Tab w) :
    Calls Tryz.prog 146 #[.agg #[.string (bs m.o), .string (bs m.c), .string (bs m.s), .string (bs m.a), .string (bs m.b), .string (bs m.d)], v] w fun e w' => e = .returned (.string (bs (m.set l))) ∧ Up w w' := by
  have HT := hide ht
  obtain ⟨hl, hi⟩ := hi
  have HI := hide hi
  have HO := hide hm
  clear ht hi
  obtain ⟨ao, cap, rfl, hr⟩ := hv
  have HR := hide hr
  clear hr
  have HM := hide (VRow.new w m.cells 174)
  have HUB := hide ((Up.refl w).alloc (.cells m.cells.toArray 174))
  obtain ⟨wB, hwB⟩ : ∃ wB, wB = w.alloc (.cells m.cells.toArray 174) := ⟨_, rfl⟩
  have lo := hm.o
  have ls := hm.s
  clear hm
  go_enter Tryz.func146, Tryz.ntmps146
  go_wp2_with fail
  go_loopw [5, 10] (fun s i wr => ∃ (n : Nat) (t : List UInt8), n ≤ l.length ∧ i = .int .i64 n ∧ s = .string (bs t) ∧ t.length ≤ n * 300000000100 ∧ Hid (m.listT m.poly 0 l = t ++ m.listT m.poly n (l.drop n)) ∧ Hid (Up wB wr)) (fun _ i _ => l.length - (intOf i).toNat)
  case atStart => exact ⟨0, [], by omega, rfl, rfl, by simp, by simp [Hid], by rw [hwB]; exact Up.refl _⟩
  case round =>
    obtain ⟨wo, hw⟩ : ∃ x, x = wr := ⟨_, rfl⟩
    subst hw
    obtain ⟨n, t, hn, rfl, rfl, htl, HL, HU⟩ := hrel
    rw [← hwB] at HM HUB
    have k0 := HU.out.cell (HM.out.cell (i := 0) rfl)
    have k1 := HU.out.cell (HM.out.cell (i := 1) rfl)
    have k2 := HU.out.cell (HM.out.cell (i := 2) rfl)
    have k3 := HU.out.cell (HM.out.cell (i := 3) rfl)
    have k4 := HU.out.cell (HM.out.cell (i := 4) rfl)
    have k5 := HU.out.cell (HM.out.cell (i := 5) rfl)
    by_cases hlt : n < l.length
    · obtain ⟨p, hp⟩ := Pl.some_of_lt hlt
      obtain ⟨b, u, rfl, hc0, hr0⟩ := HR.out n p hp
      have j0 := (HUB.out.trans HU.out).cell hc0
      obtain ⟨ao2, cap2, rfl, hr1⟩ := id hr0
      have HRD := hide hr0
      have I1 := HI.out p (Pl.mem_of_some hp)
      have L2 := Mk.poly_le HO.out I1
      have HI1 := hide I1
      clear hc0 hr0 hr1 I1
      have HS := hide (Mk.listT_step m m.poly (i := n) hp)
      have L1 := Mk.gap_le HO.out n
      obtain ⟨C, hC⟩ : ∃ C, C = m.gap n := ⟨_, rfl⟩
      obtain ⟨X, hX⟩ : ∃ X, X = m.poly p := ⟨_, rfl⟩
      rw [← hC] at L1
      rw [← hX] at L2
      have HS' : Hid (m.listT m.poly 0 l = (t ++ C ++ X) ++ m.listT m.poly (n + 1) (l.drop (n + 1))) := by
        rw [HL.out, HS.out, hC, hX]
        simp [Hid]
      have HC := hide hC
      have HX := hide hX
      clear HS HL hC hX hp
      have q1 := bs_append t C
      have q2 := bs_append (t ++ C) X
      have z0 := bs_size t
      have z1 := bs_size C
      have z2 := bs_size X
      have z4 := bs_size (t ++ C)
      simp only [List.append_assoc, List.length_append, List.length_cons, List.length_nil] at q1 q2 z4 HS'
      go_wp2_with fail
      refine (mgap_any m n _).mono ?_
      rintro e w1 ⟨rfl, u1⟩
      rw [← HC.out]
      have HU1 : Hid (Up wB w1) := HU.out.trans u1
      clear u1 k0 k1 k2 k3 k4 k5
      have k0 := HU1.out.cell (HM.out.cell (i := 0) rfl)
      have k1 := HU1.out.cell (HM.out.cell (i := 1) rfl)
      have k2 := HU1.out.cell (HM.out.cell (i := 2) rfl)
      have k3 := HU1.out.cell (HM.out.cell (i := 3) rfl)
      have k4 := HU1.out.cell (HM.out.cell (i := 4) rfl)
      have k5 := HU1.out.cell (HM.out.cell (i := 5) rfl)
      go_wp2_with fail
      refine (mpoly_any m HO.out _ p _ (HRD.out.up (HUB.out.trans HU1.out)) HI1.out (HT.out.up (HUB.out.trans HU1.out))).mono ?_
      rintro e w2 ⟨rfl, u2⟩
      rw [← HX.out]
      have HU2 : Hid (Up wB w2) := HU1.out.trans u2
      clear u2
      go_wp2
      go_roundw
      case rel => exact ⟨n + 1, t ++ C ++ X, by omega, by go_num, by simp, by simp; omega, by simpa [Hid] using HS'.out, HU2⟩
      case measure => simp [intOf]; omega
    · have HS : Hid (m.listT m.poly 0 l = t) := by rw [HL.out, Mk.listT_end _ _ hlt, List.append_nil]; exact rfl
      have HE : Hid (m.set l = m.o ++ (t ++ m.s)) := by show m.list m.poly l = _; unfold Mk.list; rw [HS.out]
      clear HL HS
      have z0 := bs_size t
      have z1 := bs_size m.o
      have z2 := bs_size m.s
      have q1 := bs_append m.o t
      have z3 := bs_size (m.o ++ t)
      have q2 := bs_append (m.o ++ t) m.s
      simp only [List.append_assoc, List.length_append] at q1 q2 z3
      go_wp2
      go_ret
      rw [HE.out]
      exact ⟨by simp, HUB.out.trans HU.out⟩
end Go.Proofs.YtcclepohmhdpbaaGreatDoor

/- THE PROGRAM's TEXTS, WRITTEN: Write. -/
namespace Go.Proofs.YtcclepohmhdpbaaGreatDoor
set_option linter.all false
open Go.RowKit Go.Deep

namespace Mk
def wkt : Mk := ⟨[40], [44, 32], [41], [], [32], []⟩
def word : List UInt8 := [77, 85, 76, 84, 73, 80, 79, 76, 89, 71, 79, 78, 32]
def none : List UInt8 := [77, 85, 76, 84, 73, 80, 79, 76, 89, 71, 79, 78, 32, 69, 77, 80, 84, 89]
theorem wkt_ok : wkt.ok := ⟨by decide, by decide, by decide, by decide, by decide, by decide⟩
/-- A set as text. -/
def setW (m : Mult) : List UInt8 := if m.length = 0 then none else word ++ wkt.set m
theorem set_le {m : Mk} (h : m.ok) {l : Mult} (hl : Bn.okM l) : (m.set l).length ≤ 3000000000000000 := by
  have h1 := listT_le h m.poly 300000000000 l 0 fun r hr => poly_le h (hl.2 r hr)
  have := hl.1
  have := h.o
  have := h.s
  simp only [set, list, List.length_append]
  omega
end Mk

set_option maxRecDepth 100000 in
set_option maxHeartbeats 2000000 in
theorem tWrite_any (v : Value) (m : Mult) (w : World) (hv : Rd3 w v m) (hi : Bn.okM m) (ht : Tab w) :
    Calls Tryz.prog 106 #[v] w fun e w' => e = .returned (.string (bs (Mk.setW m))) ∧ Up w w' := by
  have HV := hide hv
  have HI := hide hi
  have HT := hide ht
  have hml := hi.1
  obtain ⟨ao, cap, rfl, -⟩ := hv
  clear hi ht
  by_cases h0 : m.length = 0
  · have HE := hide (show Mk.setW m = Mk.none by unfold Mk.setW; rw [if_pos h0])
    go_enter Tryz.func106, Tryz.ntmps106
    go_wp2
    go_ret
    rw [HE.out]
    exact ⟨rfl, Up.refl w⟩
  · have h0' : ((m.length : Int) == 0) = false := beq_eq_false_iff_ne.2 (by omega)
    have HE := hide (show Mk.setW m = Mk.word ++ Mk.wkt.set m by unfold Mk.setW; rw [if_neg h0])
    have L := Mk.set_le Mk.wkt_ok HI.out
    have HS := hide (fun (w' : World) (u : Up w w') => mset_any Mk.wkt Mk.wkt_ok _ m w' (HV.out.up u) HI.out (HT.out.up u))
    obtain ⟨X, hX⟩ : ∃ X, X = Mk.wkt.set m := ⟨_, rfl⟩
    rw [← hX] at HS HE L
    have L' : (X.length : Int) ≤ 3000000000000000 := by omega
    have z := bs_size X
    have q : ByteArray.mk #[77, 85, 76, 84, 73, 80, 79, 76, 89, 71, 79, 78, 32] ++ bs X = bs (Mk.word ++ X) := bs_append Mk.word X
    clear h0 hX L
    go_enter Tryz.func106, Tryz.ntmps106
    go_wp2_with fail
    refine (HS.out _ ((Up.refl w).alloc _)).mono ?_
    rintro e w1 ⟨rfl, u1⟩
    replace u1 := hide u1
    go_wp2
    go_ret
    rw [HE.out]
    exact ⟨rfl, ((Up.refl w).alloc _).trans u1.out⟩

set_option maxHeartbeats 1000000 in
theorem write0_any (v : Value) (m : Mult) (w : World) (hv : Rd3 w v m) (hi : Bn.okM m) (ht : Tab w) :
    Calls Tryz.prog 65 #[v, .int .i64 0, .int .i64 0] w fun e w' => e = .returned (.string (bs (Mk.setW m))) ∧ Up w w' := by
  have HW := hide (tWrite_any v m w hv hi ht)
  obtain ⟨ao, cap, rfl, hm⟩ := hv
  clear hm hi ht
  go_enter Tryz.func65, Tryz.ntmps65
  go_wp2_with (go_at_call 106; refine HW.out.mono ?_; rintro e w1 ⟨rfl, u1⟩; replace u1 := hide u1)
  go_ret
  exact ⟨rfl, u1.out⟩
end Go.Proofs.YtcclepohmhdpbaaGreatDoor

/- JSON, WRITTEN: the marks; the program's Write. -/
namespace Go.Proofs.YtcclepohmhdpbaaGreatDoor
set_option linter.all false
open Go.RowKit Go.Deep

namespace Mk
def js : Mk := ⟨[91], [44], [93], [91], [44], [93]⟩
theorem js_ok : js.ok := ⟨by decide, by decide, by decide, by decide, by decide, by decide⟩
def headJ : List UInt8 := [123, 34, 116, 121, 112, 101, 34, 58, 34, 77, 117, 108, 116, 105, 80, 111, 108, 121, 103, 111, 110, 34, 44, 34, 99, 111, 111, 114, 100, 105, 110, 97, 116, 101, 115, 34, 58]
/-- A set as JSON. -/
def setJ (m : Mult) : List UInt8 := (headJ ++ js.set m) ++ [125]
end Mk

set_option maxRecDepth 100000 in
set_option maxHeartbeats 2000000 in
theorem jWrite_any (v : Value) (m : Mult) (w : World) (hv : Rd3 w v m) (hi : Bn.okM m) (ht : Tab w) :
    Calls Tryz.prog 105 #[v] w fun e w' => e = .returned (.string (bs (Mk.setJ m))) ∧ Up w w' := by
  have HV := hide hv
  have HI := hide hi
  have HT := hide ht
  obtain ⟨ao, cap, rfl, -⟩ := hv
  clear hi ht
  have HE := hide (show Mk.setJ m = (Mk.headJ ++ Mk.js.set m) ++ [125] from rfl)
  have L := Mk.set_le Mk.js_ok HI.out
  have HS := hide (fun (w' : World) (u : Up w w') => mset_any Mk.js Mk.js_ok _ m w' (HV.out.up u) HI.out (HT.out.up u))
  obtain ⟨X, hX⟩ : ∃ X, X = Mk.js.set m := ⟨_, rfl⟩
  rw [← hX] at HS HE L
  have L' : (X.length : Int) ≤ 3000000000000000 := by omega
  have z := bs_size X
  obtain ⟨Y, hY⟩ : ∃ Y, Y = Mk.headJ ++ X := ⟨_, rfl⟩
  have q : ByteArray.mk #[123, 34, 116, 121, 112, 101, 34, 58, 34, 77, 117, 108, 116, 105, 80, 111, 108, 121, 103, 111, 110, 34, 44, 34, 99, 111, 111, 114, 100, 105, 110, 97, 116, 101, 115, 34, 58] ++ bs X = bs Y := by rw [hY]; exact bs_append Mk.headJ X
  have lY : Y.length = X.length + 37 := by rw [hY]; simp [Mk.headJ]
  have zY := bs_size Y
  have q2 : bs Y ++ ByteArray.mk #[125] = bs (Y ++ [125]) := bs_append Y [125]
  rw [← hY] at HE
  clear hX L hY
  go_enter Tryz.func105, Tryz.ntmps105
  go_wp2_with fail
  refine (HS.out _ ((Up.refl w).alloc _)).mono ?_
  rintro e w1 ⟨rfl, u1⟩
  replace u1 := hide u1
  go_wp2
  go_ret
  rw [HE.out]
  exact ⟨rfl, ((Up.refl w).alloc _).trans u1.out⟩

set_option maxHeartbeats 1000000 in
theorem write2_any (v : Value) (m : Mult) (w : World) (hv : Rd3 w v m) (hi : Bn.okM m) (ht : Tab w) :
    Calls Tryz.prog 65 #[v, .int .i64 2, .int .i64 0] w fun e w' => e = .returned (.string (bs (Mk.setJ m))) ∧ Up w w' := by
  have HW := hide (jWrite_any v m w hv hi ht)
  obtain ⟨ao, cap, rfl, hm⟩ := hv
  clear hm hi ht
  go_enter Tryz.func65, Tryz.ntmps65
  go_wp2_with (go_at_call 105; refine HW.out.mono ?_; rintro e w1 ⟨rfl, u1⟩; replace u1 := hide u1)
  go_ret
  exact ⟨rfl, u1.out⟩
end Go.Proofs.YtcclepohmhdpbaaGreatDoor

/- READ AGAIN: texts, as they are written. -/
namespace Go.Proofs.YtcclepohmhdpbaaGreatDoor
set_option linter.all false
open Go.RowKit Go.Deep

namespace Rn

/-- WKT: a list, read again. -/
theorem items_w {α : Type} {f : List UInt8 → Bool → Bn.Res α} {g : α → List UInt8} (k : Mk) (hc : k.c = [44, 32]) (rest : List UInt8) (o : Bool) :
    ∀ (r : List α) (x : α) (K i : Nat) (b : List UInt8), (b = [] ∨ b = [32]) → r.length < K → (∀ y ∈ x :: r, ∀ (b t : List UInt8) (o : Bool), (b = [] ∨ b = [32]) → ((∃ u, t = 44 :: u) ∨ ∃ u, t = 41 :: u) → f (b ++ (g y ++ t)) o = some (y, t, o)) →
      Wt.items f K (b ++ (g x ++ (Mk.listT k g (i + 1) r ++ 41 :: rest))) o = some (x :: r, rest, o)
  | [], x, 0, i, b, hb, hK, hf => by simp at hK
  | [], x, K + 1, i, b, hb, hK, hf => by
    simp only [Wt.items]
    rw [Mk.listT, List.nil_append, hf x (by simp) b _ o hb (.inr ⟨rest, rfl⟩)]
    simp only [Option.bind_some]
    have e1 : Tx.bare (41 :: rest) = 41 :: rest := by rw [Tx.bare_cons]; rfl
    rw [e1]
    have e2 : Tx.pre [44] (41 :: rest) = false := by rw [Tx.pre_cons]; rfl
    have e3 : Tx.pre [41] (41 :: rest) = true := by rw [Tx.pre_cons]; rfl
    rw [e2, if_neg (by decide), if_pos e3, Tx.aft_t e3]
    rfl
  | y :: r, x, 0, i, b, hb, hK, hf => by simp at hK
  | y :: r, x, K + 1, i, b, hb, hK, hf => by
    have hl : Mk.listT k g (i + 1) (y :: r) ++ 41 :: rest = 44 :: ([32] ++ (g y ++ (Mk.listT k g (i + 1 + 1) r ++ 41 :: rest))) := by
      rw [Mk.listT]
      unfold Mk.gap
      rw [if_neg (by omega), hc]
      simp
    rw [hl]
    simp only [Wt.items]
    rw [hf x (by simp) b _ o hb (.inl ⟨_, rfl⟩)]
    simp only [Option.bind_some]
    have e1 : ∀ u : List UInt8, Tx.bare (44 :: u) = 44 :: u := fun u => by rw [Tx.bare_cons]; rfl
    have e2 : ∀ u : List UInt8, Tx.pre [44] (44 :: u) = true := fun u => by rw [Tx.pre_cons]; rfl
    rw [e1, if_pos (e2 _), Tx.aft_t (e2 _)]
    have ih := items_w (f := f) (g := g) k hc rest o r y K (i + 1) [32] (.inr rfl) (by simp at hK; omega) (fun z hz => hf z (by simp at hz ⊢; exact .inr hz))
    show Option.map _ (Wt.items f K ([32] ++ (g y ++ (Mk.listT k g (i + 1 + 1) r ++ 41 :: rest))) o) = _
    rw [ih]
    rfl

/-- JSON: a list, read again. -/
theorem items_j {α : Type} {f : List UInt8 → Bool → Bn.Res α} {g : α → List UInt8} (k : Mk) (hc : k.c = [44]) (rest : List UInt8) (o : Bool) :
    ∀ (r : List α) (x : α) (K i : Nat) (b : List UInt8), (b = [] ∨ b = []) → r.length < K → (∀ y ∈ x :: r, ∀ (b t : List UInt8) (o : Bool), (b = [] ∨ b = []) → ((∃ u, t = 44 :: u) ∨ ∃ u, t = 93 :: u) → f (b ++ (g y ++ t)) o = some (y, t, o)) →
      Js.items 93 f K (b ++ (g x ++ (Mk.listT k g (i + 1) r ++ 93 :: rest))) o = some (x :: r, rest, o)
  | [], x, 0, i, b, hb, hK, hf => by simp at hK
  | [], x, K + 1, i, b, hb, hK, hf => by
    simp only [Js.items]
    rw [Mk.listT, List.nil_append, hf x (by simp) b _ o hb (.inr ⟨rest, rfl⟩)]
    simp only [Option.bind_some]
    have e1 : Tx.bare (93 :: rest) = 93 :: rest := by rw [Tx.bare_cons]; rfl
    rw [e1]
    have e2 : Tx.pre [44] (93 :: rest) = false := by rw [Tx.pre_cons]; rfl
    have e3 : Tx.pre [93] (93 :: rest) = true := by rw [Tx.pre_cons]; rfl
    rw [e2, if_neg (by decide), if_pos e3, Tx.aft_t e3]
    rfl
  | y :: r, x, 0, i, b, hb, hK, hf => by simp at hK
  | y :: r, x, K + 1, i, b, hb, hK, hf => by
    have hl : Mk.listT k g (i + 1) (y :: r) ++ 93 :: rest = 44 :: ([] ++ (g y ++ (Mk.listT k g (i + 1 + 1) r ++ 93 :: rest))) := by
      rw [Mk.listT]
      unfold Mk.gap
      rw [if_neg (by omega), hc]
      simp
    rw [hl]
    simp only [Js.items]
    rw [hf x (by simp) b _ o hb (.inl ⟨_, rfl⟩)]
    simp only [Option.bind_some]
    have e1 : ∀ u : List UInt8, Tx.bare (44 :: u) = 44 :: u := fun u => by rw [Tx.bare_cons]; rfl
    have e2 : ∀ u : List UInt8, Tx.pre [44] (44 :: u) = true := fun u => by rw [Tx.pre_cons]; rfl
    rw [e1, if_pos (e2 _), Tx.aft_t (e2 _)]
    have ih := items_j (f := f) (g := g) k hc rest o r y K (i + 1) [] (.inr rfl) (by simp at hK; omega) (fun z hz => hf z (by simp at hz ⊢; exact .inr hz))
    show Option.map _ (Js.items 93 f K ([] ++ (g y ++ (Mk.listT k g (i + 1 + 1) r ++ 93 :: rest))) o) = _
    rw [ih]
    rfl

theorem bare_b {b l : List UInt8} (hb : b = [] ∨ b = [32]) : Tx.bare (b ++ l) = Tx.bare l := by
  rcases hb with rfl | rfl
  · rfl
  · show Tx.bare (32 :: l) = _
    rw [Tx.bare_cons]; rfl
theorem stop_c {c : UInt8} {u : List UInt8} (h : c = 44 ∨ c = 41 ∨ c = 93 ∨ c = 32) : stop (c :: u) := by
  intro d r e
  simp only [List.cons.injEq] at e
  rw [← e.1]
  rcases h with rfl | rfl | rfl | rfl <;> decide
theorem stop_t {t : List UInt8} (h : (∃ u, t = 44 :: u) ∨ (∃ u, t = 41 :: u) ∨ ∃ u, t = 93 :: u) : stop t := by
  rcases h with ⟨u, rfl⟩ | ⟨u, rfl⟩ | ⟨u, rfl⟩
  · exact stop_c (.inl rfl)
  · exact stop_c (.inr (.inl rfl))
  · exact stop_c (.inr (.inr (.inl rfl)))
theorem coord_b {p : Bool} {b l : List UInt8} (hb : b = [] ∨ b = [32]) (o : Bool) : Wt.coord p (b ++ l) o = Wt.coord p l o := by
  rw [← Js.coord_bare, bare_b hb, Js.coord_bare]
def okP (p : Pnt) : Prop := (-32768 ≤ p.1 ∧ p.1 ≤ 32768) ∧ -32768 ≤ p.2 ∧ p.2 ≤ 32768
theorem point_w {p : Pnt} (hp : okP p) {b t : List UInt8} (o : Bool) (hb : b = [] ∨ b = [32]) (ht : (∃ u, t = 44 :: u) ∨ ∃ u, t = 41 :: u) : Wt.point (b ++ (Mk.wkt.pt p ++ t)) o = some (p, t, o) := by
  have he : Mk.wkt.pt p ++ t = Tx.txt p.1 ++ (32 :: (Tx.txt p.2 ++ t)) := by simp [Mk.pt, Mk.wkt]
  unfold Wt.point
  rw [he, coord_b hb, coord_txt true p.1 hp.1.1 hp.1.2 _ (stop_c (.inr (.inr (.inr rfl))))]
  simp only [Option.bind_some]
  have hg : Wt.gap (32 :: (Tx.txt p.2 ++ t)) = true := rfl
  rw [hg, if_neg (by decide), show (32 :: (Tx.txt p.2 ++ t)) = [32] ++ (Tx.txt p.2 ++ t) from rfl, coord_b (.inr rfl), coord_txt true p.2 hp.2.1 hp.2.2 _ (stop_t (by rcases ht with h | h; exact .inl h; exact .inr (.inl h)))]
  rfl
theorem list_w {α : Type} {f : List UInt8 → Bool → Bn.Res α} {g : α → List UInt8} (l : List α) (hl : l ≠ []) (hf : ∀ y ∈ l, ∀ (b t : List UInt8) (o : Bool), (b = [] ∨ b = [32]) → ((∃ u, t = 44 :: u) ∨ ∃ u, t = 41 :: u) → f (b ++ (g y ++ t)) o = some (y, t, o)) (hg : ∀ y ∈ l, 0 < (g y).length) {b t : List UInt8} (o : Bool) (hb : b = [] ∨ b = [32]) : Wt.list f (b ++ (Mk.wkt.list g l ++ t)) o = some (l, t, o) := by
  match l, hl with
  | x :: r, _ =>
    have he : Mk.wkt.list g (x :: r) ++ t = 40 :: (g x ++ (Mk.listT Mk.wkt g (0 + 1) r ++ 41 :: t)) := by
      simp [Mk.list, Mk.listT, Mk.gap, Mk.wkt]
    have hb2 : Tx.bare (b ++ (Mk.wkt.list g (x :: r) ++ t)) = 40 :: (g x ++ (Mk.listT Mk.wkt g (0 + 1) r ++ 41 :: t)) := by
      rw [bare_b hb, he, Tx.bare_cons]; rfl
    unfold Wt.list
    have hp : ∀ u : List UInt8, Tx.pre [40] (40 :: u) = true := fun u => by rw [Tx.pre_cons]; rfl
    rw [hb2, if_pos (hp _), Tx.aft_t (hp _)]
    refine items_w Mk.wkt rfl t o r x _ 0 [] (.inl rfl) ?_ hf
    have key : ∀ (r : List α) (i : Nat), (∀ y ∈ r, 0 < (g y).length) → r.length ≤ (Mk.listT Mk.wkt g i r).length := by
      intro r
      induction r with
      | nil => intro i _; simp
      | cons y r ih =>
        intro i hy
        have h1 := ih (i + 1) (fun z hz => hy z (by simp [hz]))
        have h2 := hy y (by simp)
        simp only [Mk.listT, List.length_append, List.length_cons]
        omega
    have := key r (0 + 1) (fun z hz => hg z (by simp [hz]))
    simp only [List.length_cons, List.length_append]
    omega
theorem list_pos (k : Mk) (hk : 0 < k.o.length) {α : Type} (g : α → List UInt8) (l : List α) : 0 < (k.list g l).length := by
  unfold Mk.list
  simp only [List.length_append]
  omega
/-- Sets that can be written and read: no list is empty, all numbers are near. -/
structure fitR (r : Ring) : Prop where
  ne : r ≠ []
  pt : ∀ p ∈ r, okP p
structure fitL (l : Poly) : Prop where
  ne : l ≠ []
  rg : ∀ r ∈ l, fitR r
def fitM (m : Mult) : Prop := ∀ l ∈ m, fitL l
theorem pt_pos (k : Mk) (p : Pnt) (hp : okP p) : 0 < (k.pt p).length := by
  have := (txt_first p.1 hp.1.1 hp.1.2 []).2.1
  have := List.length_pos_iff.2 this
  unfold Mk.pt
  simp only [List.length_append]
  omega
theorem ring_w {r : Ring} (hr : fitR r) {b t : List UInt8} (o : Bool) (hb : b = [] ∨ b = [32]) : Wt.ring (b ++ (Mk.wkt.ring r ++ t)) o = some (r, t, o) :=
  list_w r hr.ne (fun y hy b t o hb ht => point_w (hr.pt y hy) o hb ht) (fun y hy => pt_pos _ y (hr.pt y hy)) o hb
theorem poly_w {l : Poly} (hl : fitL l) {b t : List UInt8} (o : Bool) (hb : b = [] ∨ b = [32]) : Wt.poly (b ++ (Mk.wkt.poly l ++ t)) o = some (l, t, o) :=
  list_w l hl.ne (fun y hy b t o hb _ => ring_w (hl.rg y hy) o hb) (fun y hy => list_pos _ (by decide) _ _) o hb
theorem polys_w {m : Mult} (hm : fitM m) (h0 : m ≠ []) {b t : List UInt8} (o : Bool) (hb : b = [] ∨ b = [32]) : Wt.polys (b ++ (Mk.wkt.set m ++ t)) o = some (m, t, o) :=
  list_w m h0 (fun y hy b t o hb _ => poly_w (hm y hy) o hb) (fun y hy => list_pos _ (by decide) _ _) o hb
theorem set_w {m : Mult} (hm : fitM m) : Wt.set (Mk.setW m) = some (m, [], false) := by
  unfold Mk.setW
  by_cases h0 : m.length = 0
  · rw [if_pos h0, List.length_eq_zero_iff.1 h0]
    decide
  · rw [if_neg h0]
    have hne : m ≠ [] := fun e => h0 (by rw [e]; rfl)
    have hs : Mk.wkt.set m = 40 :: (Mk.listT Mk.wkt Mk.wkt.poly 0 m ++ [41]) := by simp [Mk.set, Mk.list, Mk.wkt]
    have e1 : Mk.word ++ Mk.wkt.set m = Wt.name ++ ([32] ++ Mk.wkt.set m) := by simp [Mk.word, Wt.name]
    have e2 : Tx.bare (Mk.word ++ Mk.wkt.set m) = Mk.word ++ Mk.wkt.set m := by
      show Tx.bare (77 :: _) = _
      rw [Tx.bare_cons]; rfl
    unfold Wt.set
    have hp : Tx.pre Wt.name (Mk.word ++ Mk.wkt.set m) = true := by
      rw [e1]
      unfold Tx.pre
      rw [List.take_left']
      · simp
      · rfl
    rw [e2, if_pos hp, Tx.aft_t hp, e1]
    have e3 : (Wt.name ++ ([32] ++ Mk.wkt.set m)).drop Wt.name.length = [32] ++ Mk.wkt.set m := by simp
    rw [e3]
    unfold Wt.rest
    have e4 : Tx.pre Wt.empty (Tx.bare ([32] ++ Mk.wkt.set m)) = false := by
      rw [bare_b (.inr rfl), hs, Tx.bare_cons]
      rfl
    rw [e4, Bool.false_and, if_neg (by decide)]
    have := polys_w hm hne (b := [32]) (t := []) false (.inr rfl)
    rw [List.append_nil] at this
    exact this
/-! ### JSON -/
theorem point_j {p : Pnt} (hp : okP p) {t : List UInt8} (o : Bool) : Js.pt (Mk.js.pt p ++ t) o = some (p, t, o) := by
  have he : Mk.js.pt p ++ t = 91 :: (Tx.txt p.1 ++ (44 :: (Tx.txt p.2 ++ (93 :: t)))) := by simp [Mk.pt, Mk.js]
  unfold Js.pt
  have hb : ∀ (c : UInt8) (u : List UInt8), Tx.blank c.toNat = false → Tx.bare (c :: u) = c :: u := fun c u h => by rw [Tx.bare_cons, h]; rfl
  have h91 : ∀ u : List UInt8, Tx.pre [91] (91 :: u) = true := fun u => by rw [Tx.pre_cons]; rfl
  have h44 : ∀ u : List UInt8, Tx.pre [44] (44 :: u) = true := fun u => by rw [Tx.pre_cons]; rfl
  have h93 : ∀ u : List UInt8, Tx.pre [93] (93 :: u) = true := fun u => by rw [Tx.pre_cons]; rfl
  have d : ∀ (c : UInt8) (u : List UInt8), Tx.pre [c] (c :: u) = true → Tx.aft [c] (c :: u) = u := fun c u h => by rw [Tx.aft_t h]; rfl
  rw [he, hb 91 _ rfl, if_pos (h91 _), d 91 _ (h91 _), coord_txt false p.1 hp.1.1 hp.1.2 _ (stop_c (.inl rfl))]
  simp only [Option.bind_some]
  rw [hb 44 _ rfl, if_pos (h44 _), d 44 _ (h44 _), coord_txt false p.2 hp.2.1 hp.2.2 _ (stop_c (.inr (.inr (.inl rfl))))]
  simp only [Option.bind_some]
  rw [hb 93 _ rfl, if_pos (h93 _), d 93 _ (h93 _)]
theorem list_j {α : Type} {f : List UInt8 → Bool → Bn.Res α} {g : α → List UInt8} (l : List α) (hf : ∀ y ∈ l, ∀ (t : List UInt8) (o : Bool), ((∃ u, t = 44 :: u) ∨ ∃ u, t = 93 :: u) → f (g y ++ t) o = some (y, t, o)) (hg : ∀ y ∈ l, ∃ u, g y = 91 :: u) {t : List UInt8} (o : Bool) : Js.list 91 93 f (Mk.js.list g l ++ t) o = some (l, t, o) := by
  have hb : ∀ (c : UInt8) (u : List UInt8), Tx.blank c.toNat = false → Tx.bare (c :: u) = c :: u := fun c u h => by rw [Tx.bare_cons, h]; rfl
  have h91 : ∀ u : List UInt8, Tx.pre [91] (91 :: u) = true := fun u => by rw [Tx.pre_cons]; rfl
  have h93 : ∀ u : List UInt8, Tx.pre [93] (93 :: u) = true := fun u => by rw [Tx.pre_cons]; rfl
  have d : ∀ (c : UInt8) (u : List UInt8), Tx.pre [c] (c :: u) = true → Tx.aft [c] (c :: u) = u := fun c u h => by rw [Tx.aft_t h]; rfl
  unfold Js.list
  match l with
  | [] =>
    have he : Mk.js.list g [] ++ t = 91 :: 93 :: t := by simp [Mk.list, Mk.listT, Mk.js]
    rw [he, hb 91 _ rfl, if_pos (h91 _), d 91 _ (h91 _), hb 93 _ rfl, if_pos (h93 _), d 93 _ (h93 _)]
  | x :: r =>
    have he : Mk.js.list g (x :: r) ++ t = 91 :: (g x ++ (Mk.listT Mk.js g (0 + 1) r ++ 93 :: t)) := by
      simp [Mk.list, Mk.listT, Mk.gap, Mk.js]
    obtain ⟨u, hu⟩ := hg x (by simp)
    rw [he, hb 91 _ rfl, if_pos (h91 _), d 91 _ (h91 _)]
    have e1 : Tx.bare (g x ++ (Mk.listT Mk.js g (0 + 1) r ++ 93 :: t)) = g x ++ (Mk.listT Mk.js g (0 + 1) r ++ 93 :: t) := by rw [hu]; exact hb 91 _ rfl
    have e2 : Tx.pre [93] (g x ++ (Mk.listT Mk.js g (0 + 1) r ++ 93 :: t)) = false := by
      rw [hu, List.cons_append, Tx.pre_cons]; rfl
    rw [e1, e2, if_neg (by decide)]
    have key : ∀ (r : List α) (i : Nat), (∀ y ∈ r, ∃ u, g y = 91 :: u) → r.length ≤ (Mk.listT Mk.js g i r).length := by
      intro r
      induction r with
      | nil => intro i _; simp
      | cons y r ih =>
        intro i hy
        have h1 := ih (i + 1) (fun z hz => hy z (by simp [hz]))
        obtain ⟨u, h2⟩ := hy y (by simp)
        simp only [Mk.listT, List.length_append, List.length_cons, h2]
        omega
    have h1 := key r (0 + 1) (fun z hz => hg z (by simp [hz]))
    have := items_j (f := f) (g := g) Mk.js rfl t o r x ((91 :: (g x ++ (Mk.listT Mk.js g (0 + 1) r ++ 93 :: t))).length + 1) 0 [] (.inl rfl) (by simp only [List.length_cons, List.length_append]; omega) (fun y hy b t o hb ht => by
      have : b = [] := by rcases hb with h | h <;> exact h
      rw [this, List.nil_append]
      exact hf y hy t o ht)
    rw [List.nil_append] at this
    exact this
theorem ring_j {r : Ring} (hr : ∀ p ∈ r, okP p) {t : List UInt8} (o : Bool) : Js.ring (Mk.js.ring r ++ t) o = some (r, t, o) :=
  list_j r (fun y hy t o _ => point_j (hr y hy) o) (fun y _ => ⟨_, by simp [Mk.pt, Mk.js]; rfl⟩) o
theorem poly_j {l : Poly} (hl : ∀ r ∈ l, ∀ p ∈ r, okP p) {t : List UInt8} (o : Bool) : Js.poly (Mk.js.poly l ++ t) o = some (l, t, o) :=
  list_j l (fun y hy t o _ => ring_j (hl y hy) o) (fun y _ => ⟨_, by simp [Mk.ring, Mk.list, Mk.js]; rfl⟩) o
theorem polys_j {m : Mult} (hm : ∀ l ∈ m, ∀ r ∈ l, ∀ p ∈ r, okP p) {t : List UInt8} (o : Bool) : Js.polys (Mk.js.set m ++ t) o = some (m, t, o) :=
  list_j m (fun y hy t o _ => poly_j (hm y hy) o) (fun y _ => ⟨_, by simp [Mk.poly, Mk.list, Mk.js]; rfl⟩) o
/-- Plain signs in quotes. -/
def plain (cs : List UInt8) : Prop := ∀ c ∈ cs, 32 ≤ c.toNat ∧ c.toNat ≤ 126 ∧ c.toNat ≠ 34 ∧ c.toNat ≠ 92
theorem body_lit : ∀ (cs t : List UInt8) (K : Nat), plain cs → cs.length < K → Js.body K (cs ++ 34 :: t) = some (cs.map (fun c => (c.toNat : Int)), t)
  | [], t, 0, _, h => by simp at h
  | [], t, K + 1, _, _ => by simp [Js.body, Tx.at_]
  | c :: cs, t, 0, _, h => by simp at h
  | c :: cs, t, K + 1, hp, h => by
    have hc := hp c (by simp)
    have ih := body_lit cs t K (fun d hd => hp d (by simp [hd])) (by simp at h; omega)
    have ha : Tx.at_ ((c :: cs) ++ 34 :: t) 0 = c.toNat := rfl
    have hch : Js.chr ((c :: cs) ++ 34 :: t) = some ((c.toNat : Int), cs ++ 34 :: t) := by
      unfold Js.chr
      rw [ha, if_neg (by omega), if_pos (by omega)]
      rfl
    simp only [Js.body]
    rw [ha, if_neg (by omega), hch]
    simp only [Option.bind_some]
    rw [ih]
    rfl
theorem str_lit {cs : List UInt8} (t : List UInt8) (hp : plain cs) : Js.str (34 :: (cs ++ 34 :: t)) = some (cs.map (fun c => (c.toNat : Int)), t) := by
  unfold Js.str
  rw [if_pos (show Tx.at_ (34 :: (cs ++ 34 :: t)) 0 = 34 from rfl)]
  exact body_lit cs t _ hp (by simp; omega)
theorem bare_q (l : List UInt8) : Tx.bare (34 :: l) = 34 :: l := by rw [Tx.bare_cons]; rfl
theorem name_lit {cs : List UInt8} (t : List UInt8) (hp : plain cs) : (Js.str (Tx.bare (34 :: (cs ++ 34 :: 58 :: t)))) = some (cs.map (fun c => (c.toNat : Int)), 58 :: t) := by
  rw [bare_q]; exact str_lit (58 :: t) hp
def tN : List UInt8 := [116, 121, 112, 101]
def tT : List UInt8 := [77, 117, 108, 116, 105, 80, 111, 108, 121, 103, 111, 110]
def cN : List UInt8 := [99, 111, 111, 114, 100, 105, 110, 97, 116, 101, 115]
theorem plain_tN : plain tN := by unfold plain tN; decide
theorem plain_tT : plain tT := by unfold plain tT; decide
theorem plain_cN : plain cN := by unfold plain cN; decide
theorem colon (t : List UInt8) : Tx.bare (58 :: t) = 58 :: t ∧ Tx.pre [58] (58 :: t) = true ∧ Tx.aft [58] (58 :: t) = t := by
  have h : Tx.pre [58] (58 :: t) = true := by rw [Tx.pre_cons]; rfl
  exact ⟨by rw [Tx.bare_cons]; rfl, h, by rw [Tx.aft_t h]; rfl⟩
theorem memS_type (t : List UInt8) (o : Bool) : Js.memS (34 :: (tN ++ 34 :: 58 :: (34 :: (tT ++ 34 :: t)))) o = some (.type, t, o) := by
  unfold Js.memS
  rw [name_lit _ plain_tN]
  simp only [Option.bind_some]
  obtain ⟨c1, c2, c3⟩ := colon (34 :: (tT ++ 34 :: t))
  rw [c1, if_pos c2, c3]
  unfold Js.memV
  rw [if_pos (by decide), bare_q, str_lit t plain_tT]
  simp only [Option.bind_some]
  rw [if_pos (by decide)]
theorem memS_list {m : Mult} (hm : ∀ l ∈ m, ∀ r ∈ l, ∀ p ∈ r, okP p) (t : List UInt8) (o : Bool) : Js.memS (34 :: (cN ++ 34 :: 58 :: (Mk.js.set m ++ t))) o = some (.coords m, t, o) := by
  unfold Js.memS
  rw [name_lit _ plain_cN]
  simp only [Option.bind_some]
  obtain ⟨c1, c2, c3⟩ := colon (Mk.js.set m ++ t)
  rw [c1, if_pos c2, c3]
  unfold Js.memV
  rw [if_neg (by decide), if_pos (by decide), polys_j hm]
  rfl
theorem set_j {m : Mult} (hm : ∀ l ∈ m, ∀ r ∈ l, ∀ p ∈ r, okP p) : Js.set (Mk.setJ m) = some (m, [], false) := by
  have he : Mk.setJ m = 123 :: (34 :: (tN ++ 34 :: 58 :: (34 :: (tT ++ 34 :: (44 :: (34 :: (cN ++ 34 :: 58 :: (Mk.js.set m ++ [125])))))))) := by
    simp [Mk.setJ, Mk.headJ, tN, tT, cN]
  have hl : Js.list 123 125 Js.memS (Mk.setJ m) false = some ([.type, .coords m], [], false) := by
    have hb : ∀ (c : UInt8) (u : List UInt8), Tx.blank c.toNat = false → Tx.bare (c :: u) = c :: u := fun c u h => by rw [Tx.bare_cons, h]; rfl
    have hp : ∀ (c : UInt8) (u : List UInt8), Tx.pre [c] (c :: u) = true := fun c u => by rw [Tx.pre_cons]; simp
    have hn : ∀ (c d : UInt8) (u : List UInt8), c.toNat ≠ d.toNat → Tx.pre [c] (d :: u) = false := fun c d u h => by rw [Tx.pre_cons]; exact beq_eq_false_iff_ne.2 (by omega)
    have ha : ∀ (c : UInt8) (u : List UInt8), Tx.aft [c] (c :: u) = u := fun c u => by rw [Tx.aft_t (hp c u)]; rfl
    rw [he]
    unfold Js.list
    rw [hb 123 _ rfl, if_pos (hp _ _), ha, hb 34 _ rfl, hn 125 34 _ (by decide), if_neg (by decide)]
    have key : ∀ K, Js.items 125 Js.memS (K + 1 + 1) (34 :: (tN ++ 34 :: 58 :: (34 :: (tT ++ 34 :: (44 :: (34 :: (cN ++ 34 :: 58 :: (Mk.js.set m ++ [125])))))))) false = some ([.type, .coords m], [], false) := by
      intro K
      rw [Js.items, memS_type]
      simp only [Option.bind_some]
      rw [hb 44 _ rfl, if_pos (hp _ _), ha, Js.items, memS_list hm]
      simp only [Option.bind_some]
      rw [hb 125 _ rfl, hn 44 125 _ (by decide), if_neg (by decide), if_pos (hp _ _), ha]
      rfl
    exact key _
  unfold Js.set
  rw [hl]
  rfl
theorem err_j {m : Mult} (hm : ∀ l ∈ m, ∀ r ∈ l, ∀ p ∈ r, okP p) : Js.err (Mk.setJ m) = 0 ∧ Js.got (Mk.setJ m) = m := by
  unfold Js.err Js.got
  rw [set_j hm]
  exact ⟨rfl, rfl⟩
theorem err_w {m : Mult} (hm : fitM m) : Wt.err (Mk.setW m) = 0 ∧ Wt.got (Mk.setW m) = m := by
  unfold Wt.err Wt.got
  rw [set_w hm]
  exact ⟨rfl, rfl⟩
end Rn
end Go.Proofs.YtcclepohmhdpbaaGreatDoor
