import Derived.Test.YtcclepohmhdpbabPnC
import Derived.Deep.AppendLies
import Derived.Deep.RegionLaw
import Derived.Deep.RegionHeld3
import Derived.Test.YtcclepohmhdpbabProg
import Derived.WalkLawsBesides
/- THE WALKS: package plane: Meet. -/
namespace Go.Proofs.Ytcclepohmhdpbab
set_option linter.all false
open Go.RowKit Go.Deep

theorem VRow.up {w w' : World} {b : Nat} {t : TypeId} {vs : List Value} (h : VRow w b t vs) (k : Up w w') : VRow w' b t vs := h.of_block (k.block _ h.lt)
theorem side_at (s : Vd.Seg) (p : Pnt) : Vd.side s (Vd.at1 p) = Vd.sg (Vd.cr s.1 s.2 p 1) := rfl
theorem sg_bd (n : Int) : -1 ≤ Vd.sg n ∧ Vd.sg n ≤ 1 := by rcases Vd.sg_cases n with ⟨_, e⟩ | ⟨_, e⟩ | ⟨_, e⟩ <;> rw [e] <;> omega
/-- Meet, by the four sides. -/
def meetK (x : Int) (a b c d : Int) : Int := if a = 0 ∧ b = 0 ∧ c = 0 ∧ d = 0 then x else if a * b > 0 ∨ c * d > 0 then 0 else if a * b * c * d = 0 then 1 else 2
theorem meet_K (s t : Vd.Seg) : Vd.meetS s t = meetK (Vd.onLine (Vd.fwd s.1 s.2) (Vd.fwd t.1 t.2)) (Vd.side s (Vd.at1 t.1)) (Vd.side s (Vd.at1 t.2)) (Vd.side t (Vd.at1 s.1)) (Vd.side t (Vd.at1 s.2)) := rfl

set_option maxHeartbeats 4000000 in
theorem meet_any (s t : Vd.Seg) (hs : Vd.CdS s) (ht : Vd.CdS t) (w : World) : Calls Try.prog 43 #[segV s, segV t] w fun e w' => e = .returned (.int .i64 (Vd.meetS s t)) ∧ Up w w' := by
  have HE := hide (meet_K s t)
  have HS := hide hs
  have HT := hide ht
  obtain ⟨⟨ax, ay⟩, ⟨bx, bY⟩⟩ := s
  obtain ⟨⟨cx, cy⟩, ⟨dx, dy⟩⟩ := t
  clear hs ht
  simp only [segV]
  have R0 := hide ((new_row (w := w) (o := .cells #[.int .i64 ax, .int .i64 ay, .int .i64 bx, .int .i64 bY] 55) (vs := [.int .i64 ax, .int .i64 ay, .int .i64 bx, .int .i64 bY]) rfl).alloc (.cells #[.int .i64 cx, .int .i64 cy, .int .i64 dx, .int .i64 dy] 55))
  have R1 := hide ((new_row (w := w.alloc (.cells #[.int .i64 ax, .int .i64 ay, .int .i64 bx, .int .i64 bY] 55)) (o := .cells #[.int .i64 cx, .int .i64 cy, .int .i64 dx, .int .i64 dy] 55) (vs := [.int .i64 cx, .int .i64 cy, .int .i64 dx, .int .i64 dy]) rfl))
  rw [show (w.alloc (.cells #[.int .i64 ax, .int .i64 ay, .int .i64 bx, .int .i64 bY] 55)).heap.size = w.heap.size + 1 by simp] at R1
  have HU : Hid (Up w ((w.alloc (.cells #[.int .i64 ax, .int .i64 ay, .int .i64 bx, .int .i64 bY] 55)).alloc (.cells #[.int .i64 cx, .int .i64 cy, .int .i64 dx, .int .i64 dy] 55))) := ((Up.refl _).alloc _).alloc _
  go_enter Try.func43, Try.ntmps43
  go_wp2_with fail
  generalize (w.alloc (.cells #[.int .i64 ax, .int .i64 ay, .int .i64 bx, .int .i64 bY] 55)).alloc (.cells #[.int .i64 cx, .int .i64 cy, .int .i64 dx, .int .i64 dy] 55) = W at *
  have s0 := R0.out.gr (i := 0) rfl
  have s1 := R0.out.gr (i := 1) rfl
  have s2 := R0.out.gr (i := 2) rfl
  have s3 := R0.out.gr (i := 3) rfl
  have t0 := R1.out.gr (i := 0) rfl
  have t1 := R1.out.gr (i := 1) rfl
  have t2 := R1.out.gr (i := 2) rfl
  have t3 := R1.out.gr (i := 3) rfl
  refine wp_region_up (by kernel_rfl) (by kernel_rfl) ?_
  repeat (first | go_big_quiet_step ((first | (go_at_call 45; exact Calls.up_of (at_any (cx, cy) _)) | (go_at_call 41; exact Calls.up_of (side_any ((ax, ay), (bx, bY)) (Vd.at1 (cx, cy)) HS.out (Vd.at1_sp HT.out.1) _)))))
  refine wpQuiet_nil ?_
  rintro _ ⟨⟨w1, u⟩, rfl⟩
  replace R0 := hide (R0.out.up u)
  replace R1 := hide (R1.out.up u)
  replace HU := hide (HU.out.trans u)
  clear s0 s1 s2 s3 t0 t1 t2 t3 u
  go_wp2_with fail
  have s0 := R0.out.gr (i := 0) rfl
  have s1 := R0.out.gr (i := 1) rfl
  have s2 := R0.out.gr (i := 2) rfl
  have s3 := R0.out.gr (i := 3) rfl
  have t0 := R1.out.gr (i := 0) rfl
  have t1 := R1.out.gr (i := 1) rfl
  have t2 := R1.out.gr (i := 2) rfl
  have t3 := R1.out.gr (i := 3) rfl
  refine wp_region_up (by kernel_rfl) (by kernel_rfl) ?_
  repeat (first | go_big_quiet_step ((first | (go_at_call 45; exact Calls.up_of (at_any (dx, dy) _)) | (go_at_call 41; exact Calls.up_of (side_any ((ax, ay), (bx, bY)) (Vd.at1 (dx, dy)) HS.out (Vd.at1_sp HT.out.2) _)))))
  refine wpQuiet_nil ?_
  rintro _ ⟨⟨w2, u⟩, rfl⟩
  replace R0 := hide (R0.out.up u)
  replace R1 := hide (R1.out.up u)
  replace HU := hide (HU.out.trans u)
  clear s0 s1 s2 s3 t0 t1 t2 t3 u
  go_wp2_with fail
  have s0 := R0.out.gr (i := 0) rfl
  have s1 := R0.out.gr (i := 1) rfl
  have s2 := R0.out.gr (i := 2) rfl
  have s3 := R0.out.gr (i := 3) rfl
  have t0 := R1.out.gr (i := 0) rfl
  have t1 := R1.out.gr (i := 1) rfl
  have t2 := R1.out.gr (i := 2) rfl
  have t3 := R1.out.gr (i := 3) rfl
  refine wp_region_up (by kernel_rfl) (by kernel_rfl) ?_
  repeat (first | go_big_quiet_step ((first | (go_at_call 45; exact Calls.up_of (at_any (ax, ay) _)) | (go_at_call 41; exact Calls.up_of (side_any ((cx, cy), (dx, dy)) (Vd.at1 (ax, ay)) HT.out (Vd.at1_sp HS.out.1) _)))))
  refine wpQuiet_nil ?_
  rintro _ ⟨⟨w3, u⟩, rfl⟩
  replace R0 := hide (R0.out.up u)
  replace R1 := hide (R1.out.up u)
  replace HU := hide (HU.out.trans u)
  clear s0 s1 s2 s3 t0 t1 t2 t3 u
  go_wp2_with fail
  have s0 := R0.out.gr (i := 0) rfl
  have s1 := R0.out.gr (i := 1) rfl
  have s2 := R0.out.gr (i := 2) rfl
  have s3 := R0.out.gr (i := 3) rfl
  have t0 := R1.out.gr (i := 0) rfl
  have t1 := R1.out.gr (i := 1) rfl
  have t2 := R1.out.gr (i := 2) rfl
  have t3 := R1.out.gr (i := 3) rfl
  refine wp_region_up (by kernel_rfl) (by kernel_rfl) ?_
  repeat (first | go_big_quiet_step ((first | (go_at_call 45; exact Calls.up_of (at_any (bx, bY) _)) | (go_at_call 41; exact Calls.up_of (side_any ((cx, cy), (dx, dy)) (Vd.at1 (bx, bY)) HT.out (Vd.at1_sp HS.out.2) _)))))
  refine wpQuiet_nil ?_
  rintro _ ⟨⟨w4, u⟩, rfl⟩
  replace R0 := hide (R0.out.up u)
  replace R1 := hide (R1.out.up u)
  replace HU := hide (HU.out.trans u)
  clear s0 s1 s2 s3 t0 t1 t2 t3 u
  have B1 := sg_bd (Vd.cr (ax, ay) (bx, bY) (cx, cy) 1)
  have B2 := sg_bd (Vd.cr (ax, ay) (bx, bY) (dx, dy) 1)
  have B3 := sg_bd (Vd.cr (cx, cy) (dx, dy) (ax, ay) 1)
  have B4 := sg_bd (Vd.cr (cx, cy) (dx, dy) (bx, bY) 1)
  simp only [side_at] at HE ⊢
  generalize Vd.sg (Vd.cr (ax, ay) (bx, bY) (cx, cy) 1) = a at *
  generalize Vd.sg (Vd.cr (ax, ay) (bx, bY) (dx, dy) 1) = b at *
  generalize Vd.sg (Vd.cr (cx, cy) (dx, dy) (ax, ay) 1) = c at *
  generalize Vd.sg (Vd.cr (cx, cy) (dx, dy) (bx, bY) 1) = d at *
  have k1 : wrap64 (a * b) = a * b := w64 (by have := (mul_bd (a := a) (b := b) (A := 1) (B := 1) (by omega) (by omega) (by omega) (by omega)); omega) (by have := (mul_bd (a := a) (b := b) (A := 1) (B := 1) (by omega) (by omega) (by omega) (by omega)); omega)
  have k2 : wrap64 (c * d) = c * d := w64 (by have := (mul_bd (a := c) (b := d) (A := 1) (B := 1) (by omega) (by omega) (by omega) (by omega)); omega) (by have := (mul_bd (a := c) (b := d) (A := 1) (B := 1) (by omega) (by omega) (by omega) (by omega)); omega)
  have m1 := mul_bd (a := a) (b := b) (A := 1) (B := 1) (by omega) (by omega) (by omega) (by omega)
  have m2 := mul_bd (a := a * b) (b := c) (A := 1) (B := 1) (by omega) (by omega) (by omega) (by omega)
  have m3 := mul_bd (a := a * b * c) (b := d) (A := 1) (B := 1) (by omega) (by omega) (by omega) (by omega)
  have k3 : wrap64 (a * b * c) = a * b * c := w64 (by omega) (by omega)
  have k4 : wrap64 (a * b * c * d) = a * b * c * d := w64 (by omega) (by omega)
  by_cases hz : a = 0 ∧ b = 0 ∧ c = 0 ∧ d = 0
  · obtain ⟨rfl, rfl, rfl, rfl⟩ := hz
    clear B1 B2 B3 B4 k1 k2 k3 k4 m1 m2 m3
    have HR : Hid (Vd.meetS ((ax, ay), bx, bY) ((cx, cy), dx, dy) = Vd.onLine (Vd.fwd (ax, ay) (bx, bY)) (Vd.fwd (cx, cy) (dx, dy))) := HE.out
    go_wp2_with fail
    have s0 := R0.out.gr (i := 0) rfl
    have s1 := R0.out.gr (i := 1) rfl
    have s2 := R0.out.gr (i := 2) rfl
    have s3 := R0.out.gr (i := 3) rfl
    have t0 := R1.out.gr (i := 0) rfl
    have t1 := R1.out.gr (i := 1) rfl
    have t2 := R1.out.gr (i := 2) rfl
    have t3 := R1.out.gr (i := 3) rfl
    refine wp_region_up (by kernel_rfl) (by kernel_rfl) ?_
    repeat (first | go_big_quiet_step ((first | (go_at_call_of 46 (Value.agg #[.int .i64 ax, .int .i64 ay, .int .i64 bx, .int .i64 bY]); exact Calls.up_of (forward_any ((ax, ay), (bx, bY)) _)) | (go_at_call 46; exact Calls.up_of (forward_any ((cx, cy), (dx, dy)) _)) | (go_at_call 50; exact Calls.up_of (online_any (Vd.fwd (ax, ay) (bx, bY)) (Vd.fwd (cx, cy) (dx, dy)) _)))))
    refine wpQuiet_nil ?_
    rintro _ ⟨⟨w5, u⟩, rfl⟩
    go_wp2
    go_ret
    exact ⟨ret_i HR.out.symm, HU.out.trans u⟩
  · have HZ := hide hz
    have hcs : (a == 0) = false ∨ (a = 0 ∧ (b == 0) = false) ∨ (a = 0 ∧ b = 0 ∧ (c == 0) = false) ∨ (a = 0 ∧ b = 0 ∧ c = 0 ∧ (d == 0) = false) := by
      simp only [beq_eq_false_iff_ne]; omega
    by_cases p1 : 0 < a * b
    · have HR : Hid (Vd.meetS ((ax, ay), bx, bY) ((cx, cy), dx, dy) = 0) := by rw [HE.out]; unfold meetK; rw [if_neg HZ.out, if_pos (.inl p1)]; exact rfl
      clear hz B1 B2 B3 B4 m1 m2 m3
      rcases hcs with h | ⟨rfl, h⟩ | ⟨rfl, rfl, h⟩ | ⟨rfl, rfl, rfl, h⟩
      all_goals
        first
        | (exfalso; simp at p1; done)
        | (go_wp2; go_ret; exact ⟨ret_i HR.out.symm, HU.out⟩)
    · by_cases p2 : 0 < c * d
      · have HR : Hid (Vd.meetS ((ax, ay), bx, bY) ((cx, cy), dx, dy) = 0) := by rw [HE.out]; unfold meetK; rw [if_neg HZ.out, if_pos (.inr p2)]; exact rfl
        clear hz B1 B2 B3 B4 m1 m2 m3
        rcases hcs with h | ⟨rfl, h⟩ | ⟨rfl, rfl, h⟩ | ⟨rfl, rfl, rfl, h⟩
        all_goals
          first
          | (exfalso; simp at p2; done)
          | (go_wp2; go_ret; exact ⟨ret_i HR.out.symm, HU.out⟩)
      · by_cases p3 : a * b * c * d = 0
        · have HR : Hid (Vd.meetS ((ax, ay), bx, bY) ((cx, cy), dx, dy) = 1) := by rw [HE.out]; unfold meetK; rw [if_neg HZ.out, if_neg (by omega), if_pos p3]; exact rfl
          clear hz B1 B2 B3 B4 m1 m2 m3
          rcases hcs with h | ⟨rfl, h⟩ | ⟨rfl, rfl, h⟩ | ⟨rfl, rfl, rfl, h⟩
          all_goals
            go_wp2
            go_ret
            exact ⟨ret_i HR.out.symm, HU.out⟩
        · have HR : Hid (Vd.meetS ((ax, ay), bx, bY) ((cx, cy), dx, dy) = 2) := by rw [HE.out]; unfold meetK; rw [if_neg HZ.out, if_neg (by omega), if_neg p3]; exact rfl
          have p3' := beq_eq_false_iff_ne.2 p3
          clear hz B1 B2 B3 B4 m1 m2 m3
          rcases hcs with h | ⟨rfl, h⟩ | ⟨rfl, rfl, h⟩ | ⟨rfl, rfl, rfl, h⟩
          all_goals
            first
            | (exfalso; simp at p3; done)
            | (go_wp2; go_ret; exact ⟨ret_i HR.out.symm, HU.out⟩)
end Go.Proofs.Ytcclepohmhdpbab

/- WHAT MAY HAVE TURNED, BY BLOCKS; readings with their blocks named. -/
namespace Go.Proofs.Ytcclepohmhdpbab
set_option linter.all false
open Go.RowKit Go.Deep

/-- Nothing has turned but in blocks of S (and new ones). -/
structure Fr (S : Nat → Prop) (w w' : World) : Prop where
  os : w'.os = w.os
  tape : w'.tape = w.tape
  output : w'.output = w.output
  size : w.heap.size ≤ w'.heap.size
  block : ∀ b, b < w.heap.size → ¬ S b → w'.heap[b]? = w.heap[b]?

theorem Fr.refl (S : Nat → Prop) (w : World) : Fr S w w := ⟨rfl, rfl, rfl, Nat.le_refl _, fun _ _ _ => rfl⟩
theorem Fr.trans {S : Nat → Prop} {a b c : World} (h : Fr S a b) (k : Fr S b c) : Fr S a c :=
  ⟨k.os.trans h.os, k.tape.trans h.tape, k.output.trans h.output, Nat.le_trans h.size k.size, fun i hi hs => (k.block i (Nat.lt_of_lt_of_le hi h.size) hs).trans (h.block i hi hs)⟩
theorem Fr.mono {S T : Nat → Prop} {a b : World} (h : Fr S a b) (k : ∀ x, x < a.heap.size → S x → T x) : Fr T a b :=
  ⟨h.os, h.tape, h.output, h.size, fun i hi hs => h.block i hi (fun e => hs (k i hi e))⟩
theorem Fr.of_up {S : Nat → Prop} {a b : World} (h : Up a b) : Fr S a b := ⟨h.os, h.tape, h.output, h.size, fun i hi _ => h.block i hi⟩
theorem Fr.up {S : Nat → Prop} {a b : World} (h : Fr S a b) (k : ∀ x, x < a.heap.size → ¬ S x) : Up a b := ⟨h.os, h.tape, h.output, h.size, fun i hi => h.block i hi (k i hi)⟩
theorem Fr.alloc {S : Nat → Prop} {a b : World} (h : Fr S a b) (o : Obj) : Fr S a (b.alloc o) := h.trans (Fr.of_up ((Up.refl _).alloc o))
theorem Fr.drewN {S : Nat → Prop} {a b : World} (h : Fr S a b) (n : Nat) : Fr S a (b.drewN n) := h.trans (Fr.of_up ((Up.refl _).drewN n))
theorem Fr.drew {S : Nat → Prop} {a b : World} (h : Fr S a b) : Fr S a b.drew := h.trans (Fr.of_up (Up.refl _).drew)
theorem Fr.setCell {S : Nat → Prop} {a b : World} (h : Fr S a b) {p : Addr} (hp : S p.block) (u : Value) : Fr S a (b.setCell p u) :=
  h.trans ⟨rfl, rfl, rfl, by simp [World.setCell], fun k _ hs => Below.heap_setCell _ _ _ _ (fun e => hs (e ▸ hp))⟩
theorem Fr.setNew {S : Nat → Prop} {a b : World} (h : Fr S a b) {p : Addr} (hp : a.heap.size ≤ p.block) (u : Value) : Fr S a (b.setCell p u) :=
  ⟨h.os, h.tape, h.output, by simpa [World.setCell] using h.size, fun k hk hs => (Below.heap_setCell _ _ _ _ (by omega)).trans (h.block k hk hs)⟩
theorem Fr.grown {S : Nat → Prop} {a b c : World} (h : Fr S a b) {row : Option Nat} (hg : b.grownBy c row) (hr : ∀ k, row = some k → S k ∨ a.heap.size ≤ k) : Fr S a c :=
  ⟨hg.os.trans h.os, hg.tape.trans h.tape, hg.output.trans h.output, Nat.le_trans h.size hg.size, fun i hi hs => (hg.block i (Nat.lt_of_lt_of_le hi h.size) (fun e => by
    rcases hr i e.symm with h1 | h1
    · exact hs h1
    · omega)).trans (h.block i hi hs)⟩
theorem Fr.row {S : Nat → Prop} {a c : World} (h : Fr S a c) {b : Nat} {t : TypeId} {vs : List Value} (hv : VRow a b t vs) (hs : ¬ S b) : VRow c b t vs := hv.of_block (h.block b hv.lt hs)
theorem Fr.cell {S : Nat → Prop} {a c : World} (h : Fr S a c) {p : Addr} {v : Value} (hv : a.cell? p = some v) (hs : ¬ S p.block) : c.cell? p = some v :=
  (World.cell?_of_block (h.block _ (lt_of_cell hv) hs)).trans hv
theorem Fr.ok1 {S : Nat → Prop} {a c : World} (h : Fr S a c) {d : D1} (hv : OK1 a d) (hs : ¬ S d.b) : OK1 c d := h.row hv hs
theorem Fr.ok2 {S : Nat → Prop} {a c : World} (h : Fr S a c) {d : D2} (hv : OK2 a d) (hs : ∀ b ∈ d.bl, ¬ S b) : OK2 c d := hv.of fun b hb => h.block b (hv.lt b hb) (hs b hb)
theorem Fr.ok3 {S : Nat → Prop} {a c : World} (h : Fr S a c) {d : D3} (hv : OK3 a d) (hs : ∀ b ∈ d.bl, ¬ S b) : OK3 c d := hv.of fun b hb => h.block b (hv.lt b hb) (hs b hb)

/-! ### Readings with their blocks -/
def RF1 (F : Nat → Prop) (w : World) (v : Value) (r : Ring) : Prop :=
  ∃ ao cap, v = .slice ao r.length cap ∧ ∀ i p, r[i]? = some p → ∃ b, F b ∧ ao = some ⟨b, 0, none⟩ ∧ w.cell? ⟨b, i * 2, none⟩ = some (.int .i64 p.1) ∧ w.cell? ⟨b, i * 2 + 1, none⟩ = some (.int .i64 p.2)
def RF2 (F : Nat → Prop) (w : World) (v : Value) (l : Poly) : Prop :=
  ∃ ao cap, v = .slice ao l.length cap ∧ ∀ i r, l[i]? = some r → ∃ b u, F b ∧ ao = some ⟨b, 0, none⟩ ∧ w.cell? ⟨b, i, none⟩ = some u ∧ RF1 F w u r
def RF3 (F : Nat → Prop) (w : World) (v : Value) (m : Mult) : Prop :=
  ∃ ao cap, v = .slice ao m.length cap ∧ ∀ i l, m[i]? = some l → ∃ b u, F b ∧ ao = some ⟨b, 0, none⟩ ∧ w.cell? ⟨b, i, none⟩ = some u ∧ RF2 F w u l

theorem RF1.rd {F : Nat → Prop} {w : World} {v : Value} {r : Ring} (h : RF1 F w v r) : Rd1 w v r := by
  obtain ⟨ao, cap, e, h⟩ := h
  exact ⟨ao, cap, e, fun i p hp => by obtain ⟨b, _, e1, e2, e3⟩ := h i p hp; exact ⟨b, e1, e2, e3⟩⟩
theorem RF2.rd {F : Nat → Prop} {w : World} {v : Value} {l : Poly} (h : RF2 F w v l) : Rd2 w v l := by
  obtain ⟨ao, cap, e, h⟩ := h
  exact ⟨ao, cap, e, fun i p hp => by obtain ⟨b, u, _, e1, e2, e3⟩ := h i p hp; exact ⟨b, u, e1, e2, e3.rd⟩⟩
theorem RF3.rd {F : Nat → Prop} {w : World} {v : Value} {m : Mult} (h : RF3 F w v m) : Rd3 w v m := by
  obtain ⟨ao, cap, e, h⟩ := h
  exact ⟨ao, cap, e, fun i p hp => by obtain ⟨b, u, _, e1, e2, e3⟩ := h i p hp; exact ⟨b, u, e1, e2, e3.rd⟩⟩

theorem RF1.keep {F F' : Nat → Prop} {S : Nat → Prop} {w w' : World} {v : Value} {r : Ring} (h : RF1 F w v r) (k : Fr S w w') (hF : ∀ b, b < w.heap.size → F b → F' b ∧ ¬ S b) : RF1 F' w' v r := by
  obtain ⟨ao, cap, e, h⟩ := h
  refine ⟨ao, cap, e, fun i p hp => ?_⟩
  obtain ⟨b, f, e1, e2, e3⟩ := h i p hp
  obtain ⟨g1, g2⟩ := hF b (lt_of_cell e2) f
  exact ⟨b, g1, e1, k.cell e2 g2, k.cell e3 g2⟩
theorem RF2.keep {F F' : Nat → Prop} {S : Nat → Prop} {w w' : World} {v : Value} {l : Poly} (h : RF2 F w v l) (k : Fr S w w') (hF : ∀ b, b < w.heap.size → F b → F' b ∧ ¬ S b) : RF2 F' w' v l := by
  obtain ⟨ao, cap, e, h⟩ := h
  refine ⟨ao, cap, e, fun i p hp => ?_⟩
  obtain ⟨b, u, f, e1, e2, e3⟩ := h i p hp
  obtain ⟨g1, g2⟩ := hF b (lt_of_cell e2) f
  exact ⟨b, u, g1, e1, k.cell e2 g2, e3.keep k hF⟩
theorem RF3.keep {F F' : Nat → Prop} {S : Nat → Prop} {w w' : World} {v : Value} {m : Mult} (h : RF3 F w v m) (k : Fr S w w') (hF : ∀ b, b < w.heap.size → F b → F' b ∧ ¬ S b) : RF3 F' w' v m := by
  obtain ⟨ao, cap, e, h⟩ := h
  refine ⟨ao, cap, e, fun i p hp => ?_⟩
  obtain ⟨b, u, f, e1, e2, e3⟩ := h i p hp
  obtain ⟨g1, g2⟩ := hF b (lt_of_cell e2) f
  exact ⟨b, u, g1, e1, k.cell e2 g2, e3.keep k hF⟩

end Go.Proofs.Ytcclepohmhdpbab

/- append OF ONE ELEMENT, which lies in a block of its own, to a list that the call owns. -/
namespace Go.Proofs.Ytcclepohmhdpbab
set_option linter.all false
open Go.RowKit Go.Deep

/-- What is known of an element's type. -/
structure Elem (P : Program) (t e : TypeId) (z : Value) (size bytes : Nat) : Prop where
  und : P.underlying t = some (.slice e)
  info : (P.info? e).map (fun i => (i.zero, i.size, i.bytes)) = some (some z, size, bytes)
  zs : z.cells.size = size
  pos : 0 < size
  small : bytes ≤ 4096

theorem step_app {P : Program} {t e : TypeId} {z : Value} {size bytes : Nat} (E0 : Elem P t e z size bytes) {ops : Array Oper} {o : Oper} {a : Act} {w : World} {K : Act → World → Prop} {Q : Exit → Act → World → Prop} {E : Prop} (hgd : o.guard = none) (s x : Operand)
    (ho : o.op = .call { callee := .builtin .append, args := #[s, x], argTypes := #[t, t] }) (base : Nat) (v : Value) (n : Nat) (xs : List Value) (hs : a.eval s = v) (hown : w.ownsRow base e size v n xs)
    (g0 : Nat) (news : List Value) (hx : a.eval x = .slice (some ⟨g0, 0, none⟩) 1 1) (hl : news.length = size) (hg0 : w.heap[g0]? = some (.cells news.toArray e (0, 0))) (h1 : ∀ u ∈ news, u.oneCell' = true)
    (hn : n ≤ 1073741824) (hbase : base ≤ w.heap.size)
    (h : ∀ g cap w', w'.ownsRow base e size (.slice (some ⟨g, 0, none⟩) (n + 1) cap) (n + 1) (xs ++ news) → w.grownBy w' v.ownBlock → (v.ownBlock = some g ∨ g = w.heap.size) → g < w'.heap.size → K (a.put o.dst (.slice (some ⟨g, 0, none⟩) (n + 1) cap)) w') :
    if Region.wanted o (yielded ops a.tmps) = true then Oper.wp P o a w K Q else E := by
  obtain ⟨i, hi, hzz⟩ := Option.map_eq_some_iff.1 E0.info
  simp only [Prod.mk.injEq] at hzz
  obtain ⟨z1, z2, z3⟩ := hzz
  refine step_append_lies w hgd s x t ho base e i z size bytes E0.und hi z1 z2 z3 E0.zs E0.pos v n xs hs hown ⟨g0, 0, none⟩ 1 1 news hx (by omega) ?_ h1 (by omega) (by unfold maxLen; omega) ?_ hbase w.heap.size rfl h
  · have := World.news_of_block hg0
    simpa using this
  · have := E0.small
    have h2 : (n + 1) * bytes ≤ (n + 1) * 4096 := Nat.mul_le_mul_left _ this
    omega

theorem wpList_app {P : Program} {t e : TypeId} {z : Value} {size bytes : Nat} (E0 : Elem P t e z size bytes) {ops : Array Oper} {rest : List Oper} {o : Oper} {a : Act} {w : World} {Q : Exit → Act → World → Prop} (hgd : o.guard = none) (s x : Operand)
    (ho : o.op = .call { callee := .builtin .append, args := #[s, x], argTypes := #[t, t] }) (base : Nat) (v : Value) (n : Nat) (xs : List Value) (hs : a.eval s = v) (hown : w.ownsRow base e size v n xs)
    (g0 : Nat) (news : List Value) (hx : a.eval x = .slice (some ⟨g0, 0, none⟩) 1 1) (hl : news.length = size) (hg0 : w.heap[g0]? = some (.cells news.toArray e (0, 0))) (h1 : ∀ u ∈ news, u.oneCell' = true)
    (hn : n ≤ 1073741824) (hbase : base ≤ w.heap.size)
    (h : ∀ g cap w', w'.ownsRow base e size (.slice (some ⟨g, 0, none⟩) (n + 1) cap) (n + 1) (xs ++ news) → w.grownBy w' v.ownBlock → (v.ownBlock = some g ∨ g = w.heap.size) → g < w'.heap.size → wpList P ops Q rest (a.put o.dst (.slice (some ⟨g, 0, none⟩) (n + 1) cap)) w') :
    wpList P ops Q (o :: rest) a w := by
  obtain ⟨i, hi, hzz⟩ := Option.map_eq_some_iff.1 E0.info
  simp only [Prod.mk.injEq] at hzz
  obtain ⟨z1, z2, z3⟩ := hzz
  refine wpList_append_lies w hgd s x t ho base e i z size bytes E0.und hi z1 z2 z3 E0.zs E0.pos v n xs hs hown ⟨g0, 0, none⟩ 1 1 news hx (by omega) ?_ h1 (by omega) (by unfold maxLen; omega) ?_ hbase w.heap.size rfl h
  · have := World.news_of_block hg0
    simpa using this
  · have := E0.small
    have h2 : (n + 1) * bytes ≤ (n + 1) * 4096 := Nat.mul_le_mul_left _ this
    omega

/-- The block of an owned list is of its element's type. -/
theorem own_type {w : World} {base : Nat} {e : TypeId} {size : Nat} {v : Value} {n : Nat} {xs : List Value} (h : w.ownsRow base e size v n xs) {g : Nat} (hg : v.ownBlock = some g) : ∃ cur, w.heap[g]? = some (.cells cur e (0, 0)) := by
  rcases h.2 with ⟨rfl, _⟩ | ⟨g', cap, cur, rfl, _, hh, _⟩
  · cases hg
  · cases hg; exact ⟨cur, hh⟩

/-- Two owned lists of unlike elements lie apart. -/
theorem own_apart {w : World} {base base' : Nat} {e e' : TypeId} {size size' : Nat} {v v' : Value} {n n' : Nat} {xs xs' : List Value} (h : w.ownsRow base e size v n xs) (h' : w.ownsRow base' e' size' v' n' xs') (he : e ≠ e') : v.ownBlock = none ∨ v.ownBlock ≠ v'.ownBlock := by
  cases hv : v.ownBlock with
  | none => exact .inl rfl
  | some g =>
    refine .inr fun e2 => ?_
    obtain ⟨c, hc⟩ := own_type h hv
    obtain ⟨c', hc'⟩ := own_type h' e2.symm
    rw [hc] at hc'
    simp at hc'
    exact he hc'.2

theorem own_row_ne {w : World} {base : Nat} {e : TypeId} {size : Nat} {v : Value} {n : Nat} {xs : List Value} (h : w.ownsRow base e size v n xs) {b : Nat} {t : TypeId} {vs : List Value} (hb : VRow w b t vs) (he : e ≠ t) : v.ownBlock ≠ some b := by
  intro e2
  obtain ⟨c, hc⟩ := own_type h e2
  unfold VRow at hb
  rw [hb] at hc
  simp at hc
  exact he hc.2.symm

theorem own_of_block {w w' : World} {base : Nat} {e : TypeId} {size : Nat} {v : Value} {n : Nat} {xs : List Value} (h : w.ownsRow base e size v n xs) (k : ∀ g, v.ownBlock = some g → w'.heap[g]? = w.heap[g]?) : w'.ownsRow base e size v n xs := by
  refine ⟨h.1, ?_⟩
  rcases h.2 with h2 | ⟨g, cap, cur, rfl, hb, hh, r⟩
  · exact .inl h2
  · exact .inr ⟨g, cap, cur, rfl, hb, (k g rfl).trans hh, r⟩
theorem own_lt {w : World} {base : Nat} {e : TypeId} {size : Nat} {v : Value} {n : Nat} {xs : List Value} (h : w.ownsRow base e size v n xs) {g : Nat} (hg : v.ownBlock = some g) : base ≤ g ∧ g < w.heap.size := h.lt g hg
theorem own_set {w : World} {base : Nat} {e : TypeId} {size : Nat} {v : Value} {n : Nat} {xs : List Value} (h : w.ownsRow base e size v n xs) {a : Addr} (ha : v.ownBlock ≠ some a.block) (u : Value) : (w.setCell a u).ownsRow base e size v n xs :=
  own_of_block h fun g hg => Below.heap_setCell _ _ _ _ (fun e => ha (e ▸ hg))
theorem own_up {w w' : World} {base : Nat} {e : TypeId} {size : Nat} {v : Value} {n : Nat} {xs : List Value} (h : w.ownsRow base e size v n xs) (k : Up w w') : w'.ownsRow base e size v n xs :=
  own_of_block h fun g hg => k.block g (own_lt h hg).2
theorem own_fr {S : Nat → Prop} {w w' : World} {base : Nat} {e : TypeId} {size : Nat} {v : Value} {n : Nat} {xs : List Value} (h : w.ownsRow base e size v n xs) (k : Fr S w w') (hs : ∀ g, v.ownBlock = some g → ¬ S g) : w'.ownsRow base e size v n xs :=
  own_of_block h fun g hg => k.block g (own_lt h hg).2 (hs g hg)
theorem own_base {w : World} {base base' : Nat} {e : TypeId} {size : Nat} {v : Value} {n : Nat} {xs : List Value} (h : w.ownsRow base e size v n xs) (hb : base' ≤ base) : w.ownsRow base' e size v n xs := by
  refine ⟨h.1, ?_⟩
  rcases h.2 with h2 | ⟨g, cap, cur, rfl, hb2, r⟩
  · exact .inl h2
  · exact .inr ⟨g, cap, cur, rfl, by omega, r⟩

theorem VRow.grown {w w' : World} {row : Option Nat} {b : Nat} {t : TypeId} {vs : List Value} (h : VRow w b t vs) (hg : w.grownBy w' row) (hne : row ≠ some b) : VRow w' b t vs :=
  h.of_block (hg.block b h.lt (fun e => hne e.symm))

end Go.Proofs.Ytcclepohmhdpbab

/- THE WALKS: package lists, read alone. -/
namespace Go.Proofs.Ytcclepohmhdpbab
set_option linter.all false
open Go.RowKit Go.Deep

set_option maxHeartbeats 400000 in
theorem isFar_any (x : Int) (w : World) :
    Calls Try.prog 19 #[.int .i64 x] w fun e w' => e = .returned (.bool (Pl.farC x)) ∧ w' = w := by
  have : Pl.farC x = (decide (32768 < x) || decide (x < -32768)) := rfl
  by_cases h1 : 32768 < x
  · go_enter Try.func19, Try.ntmps19
    go_wp2
    go_ret
    exact ⟨by simp [Pl.farC, h1], rfl⟩
  · by_cases h2 : x < -32768
    all_goals
      go_enter Try.func19, Try.ntmps19
      go_wp2
      go_ret
      exact ⟨by simp [Pl.farC, h1, h2], rfl⟩

theorem ret_bool {a b : Bool} (h : a = b) : Ending.returned (.bool a) = .returned (.bool b) := by rw [h]

set_option maxHeartbeats 1000000 in
theorem tooMany_any (v : Value) (m : Mult) (w : World) (hv : Rd3 w v m) (hb : Pl.Bd m) :
    Calls Try.prog 13 #[v] w fun e w' => e = .returned (.bool (Pl.many m)) ∧ w' = w := by
  obtain ⟨ao, cap, rfl, hm⟩ := hv
  have hlen := hb.len
  by_cases h8 : 8 < m.length
  · go_enter Try.func13, Try.ntmps13
    go_wp2
    go_ret
    exact ⟨ret_bool (by simp [Pl.many, h8]), rfl⟩
  · go_enter Try.func13, Try.ntmps13
    go_wp2
    go_loop [3, 4, 14] (fun rc pc i => ∃ k : Nat, k ≤ m.length ∧ i = .int .i64 k ∧ rc = .int .i64 (Pl.nR (m.take k) : Nat) ∧ pc = .int .i64 (Pl.nP (m.take k) : Nat) ∧ Pl.nR (m.take k) ≤ 12 ∧ Pl.nP (m.take k) ≤ 100) (fun _ _ i => m.length - (intOf i).toNat)
    case atStart => exact ⟨0, Nat.zero_le _, rfl, rfl, rfl, by simp [Pl.nR], by simp [Pl.nP]⟩
    case round =>
      obtain ⟨k, hk, rfl, rfl, rfl, h12, h100⟩ := hrel
      by_cases hlt : k < m.length
      · obtain ⟨l, hl⟩ := Pl.some_of_lt hlt
        obtain ⟨b, u, rfl, hc, ao2, cap2, rfl, hr⟩ := hm k l hl
        have hll := hb.poly l (Pl.mem_of_some hl)
        have hrr := hb.ring l (Pl.mem_of_some hl)
        have eR : Hid (Pl.nR (m.take (k + 1)) = Pl.nR (m.take k) + l.length) := Pl.nR_take hl
        have eP : Hid (Pl.nP (m.take (k + 1)) = Pl.nP (m.take k) + Pl.nPl l) := Pl.nP_take hl
        have gR := Pl.nR_le m (k + 1)
        have gP := Pl.nP_le m (k + 1)
        have HL : Hid (m[k]? = some l) := hl
        have hm' := hide hm
        clear hl hm
        generalize hrc : Pl.nR (m.take k) = rc at *
        generalize hpc : Pl.nP (m.take k) = pc at *
        have Hrc : Hid (Pl.nR (m.take k) = rc) := hrc
        have Hpc : Hid (Pl.nP (m.take k) = pc) := hpc
        clear hrc hpc
        by_cases g12 : 12 < rc + l.length
        · go_wp2
          go_ret
          exact ⟨ret_bool (by have := eR.out; simp [Pl.many]; omega), rfl⟩
        · go_wp2
          go_loop [4, 26] (fun p j => ∃ q : Nat, q ≤ l.length ∧ j = .int .i64 q ∧ p = .int .i64 (pc + Pl.nPl (l.take q) : Nat) ∧ pc + Pl.nPl (l.take q) ≤ 100) (fun _ j => l.length - (intOf j).toNat)
          case atStart => exact ⟨0, Nat.zero_le _, rfl, by simp [Pl.nPl], by simpa [Pl.nPl] using h100⟩
          case round =>
            obtain ⟨q, hq, rfl, rfl, hq100⟩ := hrel
            by_cases hlq : q < l.length
            · obtain ⟨r, hr1⟩ := Pl.some_of_lt hlq
              obtain ⟨b2, u2, rfl, hc2, ao3, cap3, rfl, hp⟩ := hr q r hr1
              have hrl := hrr r (Pl.mem_of_some hr1)
              have eQ : Hid (Pl.nPl (l.take (q + 1)) = Pl.nPl (l.take q) + r.length) := Pl.nPl_take hr1
              have gQ := Pl.nPl_le l (q + 1)
              have hr' := hide hr
              have hrr' := hide hrr
              clear hr hr1 hp hrr
              generalize hx : Pl.nPl (l.take q) = x at *
              have Hx : Hid (Pl.nPl (l.take q) = x) := hx
              clear hx
              by_cases g100 : 100 < pc + x + r.length
              · go_wp2
                go_ret
                exact ⟨ret_bool (by have := eQ.out; have := eP.out; simp [Pl.many]; omega), rfl⟩
              · go_wp2
                go_round
                case rel => exact ⟨q + 1, by omega, by go_num, by rw [eQ.out]; go_num, by rw [eQ.out]; omega⟩
                case measure => simp [intOf]; omega
            · have : q = l.length := by omega
              subst this
              go_wp2
              go_round
              case rel => exact ⟨k + 1, by omega, by go_num, by rw [eR.out]; go_num, by rw [eP.out]; simp, by rw [eR.out]; omega, by rw [eP.out]; simpa using hq100⟩
              case measure => simp [intOf]; omega
      · have : k = m.length := by omega
        subst this
        go_wp2
        go_ret
        exact ⟨ret_bool (by simp [Pl.many] at *; omega), rfl⟩

set_option maxHeartbeats 1000000 in
theorem misformed_any (v : Value) (l : Poly) (w : World) (hv : Rd2 w v l) (hb : l.length ≤ 1048576) (hb2 : ∀ r ∈ l, r.length ≤ 1048576) :
    Calls Try.prog 14 #[v] w fun e w' => e = .returned (.bool (Pl.badL l)) ∧ ∃ n, w' = w.drewN n := by
  obtain ⟨ao, cap, rfl, hm⟩ := hv
  by_cases h0 : l.length = 0
  · go_enter Try.func14, Try.ntmps14
    go_wp2
    go_ret
    exact ⟨ret_bool (by simp [Pl.badL, List.length_eq_zero_iff.1 h0]), 0, rfl⟩
  · have h0' : ((l.length : Int) == 0) = false := beq_eq_false_iff_ne.2 (by omega)
    go_enter Try.func14, Try.ntmps14
    go_wp2
    go_loopw [10] (fun i wr => ∃ k : Nat, k ≤ l.length ∧ i = .int .i64 k ∧ (l.take k).any Pl.badR = false ∧ ∃ n, wr = w.drewN n) (fun i _ => l.length - (intOf i).toNat)
    case atStart => exact ⟨0, Nat.zero_le _, rfl, rfl, 0, rfl⟩
    case round =>
      obtain ⟨k, hk, rfl, hbad, n, rfl⟩ := hrel
      by_cases hlt : k < l.length
      · obtain ⟨r, hr⟩ := Pl.some_of_lt hlt
        obtain ⟨b, u, rfl, hc, ao2, cap2, rfl, hp⟩ := hm k r hr
        have hrl := hb2 r (Pl.mem_of_some hr)
        have e1 := hide (Pl.any_take_succ Pl.badR hr)
        have HR := hide hr
        have hm' := hide hm
        have hbad' := hide hbad
        have hb2' := hide hb2
        clear hr hm hbad hb2
        by_cases h4 : r.length < 4
        · have hd : decide ((r.length : Int) < 4) = true := by simp; omega
          have hb4 : Hid (Pl.badR r = true) := by simp [Hid, Pl.badR, h4]
          go_wp2
          go_quiet (fail)
          go_wp2
          go_ret
          exact ⟨ret_bool (by simp [Pl.badL, Pl.badRs, Pl.any_true_of Pl.badR HR.out hb4.out]), _, World.drewN_drewN _ _ _⟩
        · have hd : decide ((r.length : Int) < 4) = false := by simp; omega
          obtain ⟨p0, hp0⟩ := Pl.some_of_lt (l := r) (k := 0) (by omega)
          obtain ⟨p1, hp1⟩ := Pl.some_of_lt (l := r) (k := r.length - 1) (by omega)
          have HB := hide (Pl.badR_long h4 hp0 hp1)
          obtain ⟨b2, rfl, c00, c01⟩ := hp 0 p0 hp0
          obtain ⟨b2', e2, c10, c11⟩ := hp (r.length - 1) p1 hp1
          cases e2
          clear hp hp0 hp1
          obtain ⟨x0, y0⟩ := p0
          obtain ⟨x1, y1⟩ := p1
          dsimp only at c00 c01 c10 c11
          have q0 : 0 < r.length := by omega
          have q1 : (1 : Int) ≤ (r.length : Int) := by omega
          rcases (show (x0 = x1 ∧ y0 = y1) ∨ (x0 ≠ x1) ∨ (x0 = x1 ∧ y0 ≠ y1) from by omega) with ⟨rfl, rfl⟩ | hx | ⟨rfl, hy⟩
          · go_wp2
            refine wp_region_quiet_lit (by kernel_rfl) (by kernel_rfl) ?_
            repeat (first | go_big_quiet_step (fail) | quiet_step (fail))
            refine wpQuiet_nil ?_
            intro _ hw'
            obtain ⟨nq, hw''⟩ := hw'
            subst hw''
            go_wp2
            go_roundw
            case rel => exact ⟨k + 1, by omega, by go_num, by rw [e1.out, hbad'.out, HB.out]; simp, n + nq, by simp⟩
            case measure => simp [intOf]; omega
          all_goals
            go_wp2
            refine wp_region_quiet_lit (by kernel_rfl) (by kernel_rfl) ?_
            repeat (first | go_big_quiet_step (fail) | quiet_step (fail))
            refine wpQuiet_nil ?_
            intro _ hw'
            obtain ⟨nq, hw''⟩ := hw'
            subst hw''
            go_wp2
            go_ret
            exact ⟨ret_bool (by simp [Pl.badL, Pl.badRs, Pl.any_true_of Pl.badR HR.out (by rw [HB.out]; simp [*])]), _, World.drewN_drewN _ _ _⟩
      · have : k = l.length := by omega
        subst this
        go_wp2
        go_ret
        have hne : l ≠ [] := fun e => h0 (by simp [e])
        rw [List.take_length] at hbad
        exact ⟨ret_bool (by simp [Pl.badL, Pl.badRs, hbad, hne]), _, rfl⟩

end Go.Proofs.Ytcclepohmhdpbab

/- THE WALKS: lists.outOfRange, Fault. -/
namespace Go.Proofs.Ytcclepohmhdpbab
set_option linter.all false
open Go.RowKit Go.Deep

theorem far_or (x y : Int) : Pl.wideP (x, y) = (Pl.farC x || Pl.farC y) := rfl

set_option maxHeartbeats 1000000 in
theorem outOfRange_any (v : Value) (l : Poly) (w : World) (hv : Rd2 w v l) (hb : l.length ≤ 1048576) (hb2 : ∀ r ∈ l, r.length ≤ 1048576) :
    Calls Try.prog 15 #[v] w fun e w' => e = .returned (.bool (Pl.wideL l)) ∧ Up w w' := by
  obtain ⟨ao, cap, rfl, hm⟩ := hv
  go_enter Try.func15, Try.ntmps15
  go_wp2
  go_loopw [9] (fun i wr => ∃ k : Nat, k ≤ l.length ∧ i = .int .i64 k ∧ (l.take k).any Pl.wideR = false ∧ Up w wr) (fun i _ => l.length - (intOf i).toNat)
  case atStart => exact ⟨0, Nat.zero_le _, rfl, rfl, Up.refl _⟩
  case round =>
    obtain ⟨k, hk, rfl, hbad, hup⟩ := hrel
    by_cases hlt : k < l.length
    · obtain ⟨r, hr⟩ := Pl.some_of_lt hlt
      obtain ⟨b, u, rfl, hc, ao2, cap2, rfl, hp⟩ := hm k r hr
      have hrl := hb2 r (Pl.mem_of_some hr)
      have hc' := hup.cell hc
      have e1 := hide (Pl.any_take_succ Pl.wideR hr)
      have HR := hide hr
      have hm' := hide hm
      have hbad' := hide hbad
      have hb2' := hide hb2
      have hup' := hide hup
      have hp' := hide hp
      clear hr hm hbad hb2 hup hc hp
      go_wp2
      go_loopw [15] (fun j wq => ∃ q : Nat, q ≤ r.length ∧ j = .int .i64 q ∧ (r.take q).any Pl.wideP = false ∧ Up w wq) (fun j _ => r.length - (intOf j).toNat)
      case atStart => exact ⟨0, Nat.zero_le _, rfl, rfl, hup'.out⟩
      case round =>
        obtain ⟨q, hq, rfl, hbq, huq⟩ := hrel
        by_cases hlq : q < r.length
        · obtain ⟨⟨x, y⟩, hxy⟩ := Pl.some_of_lt hlq
          obtain ⟨b2, rfl, cx, cy⟩ := hp'.out q (x, y) hxy
          have cx' := huq.cell cx
          have cy' := huq.cell cy
          dsimp only at cx' cy'
          have e2 := hide (Pl.any_take_succ Pl.wideP hxy)
          have HXY := hide hxy
          have hbq' := hide hbq
          have huq' := hide huq
          clear hxy hbq huq cx cy hp'
          cases hfx : Pl.farC x
          · cases hfy : Pl.farC y
            · have hw2 : Hid (Pl.wideP (x, y) = false) := by simp [Hid, far_or, hfx, hfy]
              go_wp2_with (go_at_call 19; refine (isFar_any _ _).mono ?_; rintro e w' ⟨rfl, rfl⟩)
              go_roundw
              case rel => exact ⟨q + 1, by omega, by go_num, by rw [e2.out, hbq'.out, hw2.out]; rfl, huq'.out.alloc _⟩
              case measure => simp [intOf]; omega
            · have hw2 : Hid (Pl.wideP (x, y) = true) := by simp [Hid, far_or, hfx, hfy]
              go_wp2_with (go_at_call 19; refine (isFar_any _ _).mono ?_; rintro e w' ⟨rfl, rfl⟩)
              go_ret
              exact ⟨ret_bool (Pl.any_true_of Pl.wideR HR.out (Pl.any_true_of Pl.wideP HXY.out hw2.out)).symm, (huq'.out.alloc _)⟩
          · have hw2 : Hid (Pl.wideP (x, y) = true) := by simp [Hid, far_or, hfx]
            go_wp2_with (go_at_call 19; refine (isFar_any _ _).mono ?_; rintro e w' ⟨rfl, rfl⟩)
            go_ret
            exact ⟨ret_bool (Pl.any_true_of Pl.wideR HR.out (Pl.any_true_of Pl.wideP HXY.out hw2.out)).symm, (huq'.out.alloc _)⟩
        · have : q = r.length := by omega
          subst this
          rw [List.take_length] at hbq
          have hbq' := hide hbq
          clear hbq
          go_wp2
          go_roundw
          case rel => exact ⟨k + 1, by omega, by go_num, by rw [e1.out, hbad'.out, show Pl.wideR r = false from hbq'.out]; rfl, huq⟩
          case measure => simp [intOf]; omega
    · have : k = l.length := by omega
      subst this
      go_wp2
      go_ret
      rw [List.take_length] at hbad
      exact ⟨ret_bool hbad.symm, hup⟩

set_option maxHeartbeats 1000000 in
theorem fault_any (v : Value) (m : Mult) (w : World) (hv : Rd3 w v m) (hb : Pl.Bd m) :
    Calls Try.prog 8 #[v] w fun e w' => e = .returned (.int .i64 (Pl.wrong m)) ∧ Up w w' := by
  have hv' := hide hv
  have hb' := hide hb
  obtain ⟨ao, cap, rfl, hm⟩ := hv
  have hlen := hb.len
  clear hb
  cases hmany : Pl.many m
  · go_enter Try.func8, Try.ntmps8
    go_wp2_with (go_at_call 13; refine (tooMany_any _ m _ ?_ ?_).mono ?_; exact hv'.out; exact hb'.out; rintro e w' ⟨rfl, rfl⟩)
    go_loopw [11] (fun i wr => ∃ k : Nat, k ≤ m.length ∧ i = .int .i64 k ∧ (m.take k).any Pl.badL = false ∧ Up w' wr) (fun i _ => m.length - (intOf i).toNat)
    case atStart => exact ⟨0, Nat.zero_le _, rfl, rfl, Up.refl _⟩
    case round =>
      obtain ⟨k, hk, rfl, hbad, hup⟩ := hrel
      by_cases hlt : k < m.length
      · obtain ⟨l, hl⟩ := Pl.some_of_lt hlt
        obtain ⟨b, u, rfl, hc, hu⟩ := hm k l hl
        have hc' := hup.cell hc
        have hu' := hide (hu.up hup)
        have e1 := hide (Pl.any_take_succ Pl.badL hl)
        have HR := hide hl
        have hbad' := hide hbad
        have hup' := hide hup
        have hm' := hide hm
        clear hl hbad hup hc hu hm
        have B1 := hide (hb'.out.poly l (Pl.mem_of_some HR.out))
        have B2 := hide (hb'.out.ring l (Pl.mem_of_some HR.out))
        cases hbl : Pl.badL l
        · have hbl' := hide hbl
          go_wp2_with (go_at_call 14; refine (misformed_any _ l _ ?_ ?_ ?_).mono ?_; exact hu'.out; exact B1.out; exact B2.out; rintro e w' ⟨rfl, nq, rfl⟩; rw [hbl'.out])
          go_roundw
          case rel => exact ⟨k + 1, by omega, by go_num, by rw [e1.out, hbad'.out, hbl'.out]; rfl, hup'.out.drewN _⟩
          case measure => simp [intOf]; omega
        · have hbl' := hide hbl
          go_wp2_with (go_at_call 14; refine (misformed_any _ l _ ?_ ?_ ?_).mono ?_; exact hu'.out; exact B1.out; exact B2.out; rintro e w' ⟨rfl, nq, rfl⟩; rw [hbl'.out])
          go_ret
          exact ⟨by rw [Pl.wrong, hmany, Pl.any_true_of Pl.badL HR.out hbl'.out]; rfl, hup'.out.drewN _⟩
      · have : k = m.length := by omega
        subst this
        rw [List.take_length] at hbad
        have hbad' := hide hbad
        have hup' := hide hup
        clear hbad hup
        go_wp2
        go_loopw [20] (fun i wr => ∃ k : Nat, k ≤ m.length ∧ i = .int .i64 k ∧ (m.take k).any Pl.wideL = false ∧ Up w' wr) (fun i _ => m.length - (intOf i).toNat)
        case atStart => exact ⟨0, Nat.zero_le _, rfl, rfl, hup'.out⟩
        case round =>
          obtain ⟨k, hk, rfl, hbad, hup⟩ := hrel
          by_cases hlt : k < m.length
          · obtain ⟨l, hl⟩ := Pl.some_of_lt hlt
            obtain ⟨b, u, rfl, hc, hu⟩ := hm k l hl
            have hc' := hup.cell hc
            have hu' := hide (hu.up hup)
            have e1 := hide (Pl.any_take_succ Pl.wideL hl)
            have HR := hide hl
            have hbd := hide hbad
            have hup2 := hide hup
            have hm' := hide hm
            clear hl hbad hup hc hu hm
            have B1 := hide (hb'.out.poly l (Pl.mem_of_some HR.out))
            have B2 := hide (hb'.out.ring l (Pl.mem_of_some HR.out))
            cases hbl : Pl.wideL l
            · have hbl' := hide hbl
              go_wp2_with (go_at_call 15; refine (outOfRange_any _ l _ ?_ ?_ ?_).mono ?_; exact hu'.out; exact B1.out; exact B2.out; rintro e w2 ⟨rfl, hw2⟩; rw [hbl'.out]; replace hw2 := hide hw2)
              go_roundw
              case rel => exact ⟨k + 1, by omega, by go_num, by rw [e1.out, hbd.out, hbl'.out]; rfl, hup2.out.trans hw2.out⟩
              case measure => simp [intOf]; omega
            · have hbl' := hide hbl
              go_wp2_with (go_at_call 15; refine (outOfRange_any _ l _ ?_ ?_ ?_).mono ?_; exact hu'.out; exact B1.out; exact B2.out; rintro e w2 ⟨rfl, hw2⟩; rw [hbl'.out]; replace hw2 := hide hw2)
              go_ret
              exact ⟨by rw [Pl.wrong, hmany, hbad'.out, Pl.any_true_of Pl.wideL HR.out hbl'.out]; rfl, hup2.out.trans hw2.out⟩
          · have : k = m.length := by omega
            subst this
            rw [List.take_length] at hbad
            have hbd := hide hbad
            have hup2 := hide hup
            clear hbad hup
            go_wp2
            go_ret
            exact ⟨by rw [Pl.wrong, hmany, hbad'.out, hbd.out]; rfl, hup2.out⟩
  · go_enter Try.func8, Try.ntmps8
    go_wp2_with (go_at_call 13; refine (tooMany_any _ m _ ?_ ?_).mono ?_; exact hv'.out; exact hb'.out; rintro e w' ⟨rfl, rfl⟩)
    go_ret
    exact ⟨by rw [Pl.wrong, hmany]; rfl, Up.refl _⟩

end Go.Proofs.Ytcclepohmhdpbab

/- THE WALKS: lists.copyRings, Copy; polygons.Make, Points. -/
namespace Go.Proofs.Ytcclepohmhdpbab
set_option linter.all false
open Go.RowKit Go.Deep

theorem und_pts : Try.prog.underlying 26 = some (.slice 25) := by kernel_rfl
theorem und_rings : Try.prog.underlying 27 = some (.slice 26) := by kernel_rfl
theorem und_polys : Try.prog.underlying 32 = some (.slice 27) := by kernel_rfl
theorem info_pt : (Try.prog.info? 25).map (fun i => (i.zero, i.size, i.bytes)) = some (some (.agg #[.int .i64 0, .int .i64 0]), 2, 16) := by kernel_rfl
theorem info_pts : (Try.prog.info? 26).map (fun i => (i.zero, i.size, i.bytes)) = some (some (.slice none 0 0), 1, 24) := by kernel_rfl
theorem info_rings : (Try.prog.info? 27).map (fun i => (i.zero, i.size, i.bytes)) = some (some (.slice none 0 0), 1, 24) := by kernel_rfl
theorem size_pt : (Try.prog.info? 25).map (·.size) = some 2 := by kernel_rfl

def zpts (n : Nat) : Ring := List.replicate n (0, 0)
def znil (n : Nat) : List Value := List.replicate n (.slice none 0 0)

theorem rep_at {α : Type} {n k : Nat} {x : α} (h : k < n) : (List.replicate n x)[k]? = some x := by rw [List.getElem?_replicate, if_pos h]

theorem flat_zpts (n : Nat) : madeCells #[.int .i64 0, .int .i64 0] (n * 2) = (flat (zpts n)).toArray := by
  apply Array.ext
  · rw [size_madeCells]; simp [flat_length, zpts]
  · intro i h1 h2
    have hi : i < n * 2 := by rwa [size_madeCells] at h1
    have hp : (zpts n)[i / 2]? = some (0, 0) := rep_at (by omega)
    have hf := flat_at _ _ _ hp
    have e : (flat (zpts n))[i]? = some (.int .i64 0) := by
      rcases Nat.mod_two_eq_zero_or_one i with h | h
      · rw [show i / 2 * 2 = i by omega] at hf; exact hf.1
      · rw [show i / 2 * 2 + 1 = i by omega] at hf; exact hf.2
    have e2 : (flat (zpts n)).toArray[i] = .int .i64 0 := by
      have := List.getElem?_eq_some_iff.1 e
      obtain ⟨_, q⟩ := this
      simpa using q
    rw [e2]
    simp only [madeCells, Array.getElem_map, Array.getElem_range]
    rcases Nat.mod_two_eq_zero_or_one i with h | h <;> simp [h]

theorem make_pts (n : Nat) (hn : n ≤ 2097152) (w : World) :
    (Instr.makeSlice 26 (.int .i64 (n : Int)) (.int .i64 (n : Int))).run Try.prog w = .ok (.slice (some ⟨w.heap.size, 0, none⟩) n n) (w.alloc (.cells (flat (zpts n)).toArray 25)) := by
  obtain ⟨i, hi, hzz⟩ := Option.map_eq_some_iff.1 info_pt
  simp only [Prod.mk.injEq] at hzz
  obtain ⟨z1, z2, z3⟩ := hzz
  have hr := run_make (P := Try.prog) w 26 25 i _ und_pts hi z1 .i64 .i64 n n (by omega) (Int.le_refl _) (by rw [z3]; omega) (by omega)
  rw [hr, z2]
  simp only [Int.toNat_natCast, Value.cells, flat_zpts]

theorem make_rings (n : Nat) (hn : n ≤ 2097152) (w : World) :
    (Instr.makeSlice 27 (.int .i64 (n : Int)) (.int .i64 (n : Int))).run Try.prog w = .ok (.slice (some ⟨w.heap.size, 0, none⟩) n n) (w.alloc (.cells (znil n).toArray 26)) := by
  rw [run_make_row' 27 26 _ 24 und_rings info_pts rfl .i64 .i64 n (by omega) (by omega) w]
  congr 3
  rw [← Array.toArray_toList (xs := madeCells _ _), toList_madeCells_one]; rfl

theorem make_polys (n : Nat) (hn : n ≤ 2097152) (w : World) :
    (Instr.makeSlice 32 (.int .i64 (n : Int)) (.int .i64 (n : Int))).run Try.prog w = .ok (.slice (some ⟨w.heap.size, 0, none⟩) n n) (w.alloc (.cells (znil n).toArray 27)) := by
  rw [run_make_row' 32 27 _ 24 und_polys info_rings rfl .i64 .i64 n (by omega) (by omega) w]
  congr 3
  rw [← Array.toArray_toList (xs := madeCells _ _), toList_madeCells_one]; rfl

/-- Where copyRings stands after k rounds. -/
structure CR (w wr : World) (B : Nat) (l : Poly) (k : Nat) (ds : List D1) : Prop where
  row : VRow wr B 26 (ds.map D1.v ++ znil (l.length - k))
  rs : ds.map D1.r = l.take k
  len : ds.length = k
  bare : ∀ d ∈ ds, d.s = []
  ok : ∀ d ∈ ds, OK1 wr d
  nodup : (B :: ds.map D1.b).Nodup
  low : ∀ b ∈ B :: ds.map D1.b, w.heap.size ≤ b
  up : Up w wr

theorem set_at {α : Type} (a : List α) (x y : α) (n : Nat) : (a ++ List.replicate (n + 1) x).set a.length y = a ++ [y] ++ List.replicate n x := by
  rw [List.set_append_right _ _ (Nat.le_refl _), Nat.sub_self, List.replicate_succ, List.set_cons_zero]; simp

theorem CR.step {w wr : World} {B : Nat} {l : Poly} {k : Nat} {ds : List D1} (h : CR w wr B l k ds) {r : Ring} (hr : l[k]? = some r) :
    CR w ((wr.alloc (.cells (flat r).toArray 25)).setCell ⟨B, k, none⟩ (.slice (some ⟨wr.heap.size, 0, none⟩) r.length r.length)) B l (k + 1) (ds ++ [⟨wr.heap.size, r, []⟩]) := by
  have hk := Pl.lt_of_some hr
  have hB : B < wr.heap.size := h.row.lt
  have hW : w.heap.size ≤ wr.heap.size := h.up.size
  have hBl := h.low B (by simp)
  refine ⟨?_, ?_, ?_, ?_, ?_, ?_, ?_, ?_⟩
  · have := (h.row.alloc (.cells (flat r).toArray 25)).set k (.slice (some ⟨wr.heap.size, 0, none⟩) r.length r.length)
    have e : l.length - k = (l.length - (k + 1)) + 1 := by omega
    rw [e] at this
    have e2 := set_at (ds.map D1.v) (.slice none 0 0) (.slice (some ⟨wr.heap.size, 0, none⟩) r.length r.length) (l.length - (k + 1))
    rw [List.length_map, h.len] at e2
    rw [znil, e2] at this
    simpa [D1.v, znil] using this
  · rw [Pl.take_one hr, List.map_append, h.rs]; rfl
  · simp [h.len]
  · intro d hd
    rcases List.mem_append.1 hd with hd | hd
    · exact h.bare d hd
    · simp at hd; subst hd; rfl
  · intro d hd
    rcases List.mem_append.1 hd with hd | hd
    · have hne : d.b ≠ B := fun e => (List.nodup_cons.1 h.nodup).1 (by rw [← e]; exact List.mem_map_of_mem hd)
      exact VRow.setOther (VRow.alloc (h.ok d hd) _) hne _
    · simp at hd; subst hd
      refine VRow.setOther (b := wr.heap.size) ?_ (by show wr.heap.size ≠ B; omega) _
      simpa using VRow.new wr (flat r) _
  · have h1 : ∀ x ∈ B :: ds.map D1.b, x < wr.heap.size := by
      intro x hx
      rcases List.mem_cons.1 hx with rfl | hx
      · exact hB
      · obtain ⟨d, hd, rfl⟩ := List.mem_map.1 hx
        exact VRow.lt (h.ok d hd)
    rw [List.map_append, ← List.cons_append, List.nodup_append]
    refine ⟨h.nodup, by simp, ?_⟩
    intro a ha b hb
    simp at hb; subst hb
    have := h1 a ha; omega
  · intro b hb
    rw [List.map_append, ← List.cons_append] at hb
    rcases List.mem_append.1 hb with hb | hb
    · exact h.low b hb
    · simp at hb; omega
  · exact (h.up.alloc _).setCell hBl _

theorem CR.start (w : World) (l : Poly) : CR w (w.alloc (.cells (znil l.length).toArray 26)) w.heap.size l 0 [] :=
  ⟨by simpa using VRow.new w (znil l.length) _, rfl, rfl, by simp, by simp, by simp, by simp, (Up.refl _).alloc _⟩

/-- The lists have no spare room. -/
def D2.bare (d : D2) : Prop := d.s = [] ∧ ∀ x ∈ d.rs, x.s = []
def D3.bare (d : D3) : Prop := d.s = [] ∧ ∀ x ∈ d.ps, x.bare

set_option maxRecDepth 100000 in
set_option maxHeartbeats 1000000 in
theorem copyRings_any (v : Value) (l : Poly) (w : World) (hv : Rd2 w v l) (hb : l.length ≤ 1048576) (hb2 : ∀ r ∈ l, r.length ≤ 1048576) :
    Calls Try.prog 16 #[v] w fun e w' => ∃ d : D2, e = .returned d.v ∧ OK2 w' d ∧ d.pts = l ∧ d.bare ∧ d.bl.Nodup ∧ (∀ b ∈ d.bl, w.heap.size ≤ b) ∧ Up w w' := by
  obtain ⟨ao, cap, rfl, hm⟩ := hv
  have hmk := make_rings l.length (by omega)
  have hst := CR.start w l
  go_enter Try.func16, Try.ntmps16
  go_wp2
  clear hmk
  have hst' := hide hst
  clear hst
  go_loopw [12] (fun i wr => ∃ (k : Nat) (ds : List D1), k ≤ l.length ∧ i = .int .i64 k ∧ CR w wr w.heap.size l k ds) (fun i _ => l.length - (intOf i).toNat)
  case atStart => exact ⟨0, [], Nat.zero_le _, rfl, hst'.out⟩
  case round =>
    obtain ⟨k, ds, hk, rfl, hcr⟩ := hrel
    by_cases hlt : k < l.length
    · obtain ⟨r, hr⟩ := Pl.some_of_lt hlt
      obtain ⟨b, u, rfl, hc, ao2, cap2, rfl, hp⟩ := hm k r hr
      have hrl := hb2 r (Pl.mem_of_some hr)
      have hc' := hcr.up.cell hc
      have hmk := make_pts r.length (by omega)
      have hfz : ∀ o, (wr.alloc o).frozen? ⟨w.heap.size, k, none⟩ = false := fun o => (hcr.row.alloc o).frozen k
      have hce : ∀ o, (wr.alloc o).cell? ⟨w.heap.size, k, none⟩ = some (.slice none 0 0) := fun o => (hcr.row.alloc o).cell (by
        rw [List.getElem?_append_right (by rw [List.length_map, hcr.len]; omega), List.length_map, hcr.len, Nat.sub_self]; exact rep_at (by omega))
      have hsrc : Hid (∀ o, ∀ i p, r[i]? = some p → ∃ b, ao2 = some ⟨b, 0, none⟩ ∧ (wr.alloc o).cell? ⟨b, i * 2, none⟩ = some (.int .i64 p.1) ∧ (wr.alloc o).cell? ⟨b, i * 2 + 1, none⟩ = some (.int .i64 p.2)) := by
        intro o i p hip
        obtain ⟨b, e, c1, c2⟩ := hp i p hip
        exact ⟨b, e, (hcr.up.alloc o).cell c1, (hcr.up.alloc o).cell c2⟩
      have hfit : Hid (r.length * 2 ≤ (flat (zpts r.length)).length) := by simp [Hid, flat_length, zpts]
      have hdrop : (flat (zpts r.length)).drop (r.length * 2) = [] := List.drop_of_length_le (by simp [flat_length, zpts])
      have hcopy := run_copy_pts (P := Try.prog) (wr.alloc (.cells (flat (zpts r.length)).toArray 25)) 26 26 3 25 wr.heap.size r.length r.length ao2 cap2 25 (flat (zpts r.length)) r und_pts size_pt (heap_alloc_new wr _) (Nat.le_refl _) (hsrc.out _) hfit.out
      rw [alloc_setRow, hdrop, List.append_nil] at hcopy
      clear hdrop
      have hcr' := hide hcr
      have hr' := hide hr
      have hp' := hide hp
      have hm' := hide hm
      have hb2' := hide hb2
      clear hcr hr hp hm hb2 hc
      go_wp2
      go_roundw
      case rel => exact ⟨k + 1, _, by omega, by go_num, hcr'.out.step hr'.out⟩
      case measure => simp [intOf]; omega
    · have : k = l.length := by omega
      subst this
      have hcr' := hide hcr
      clear hcr
      go_wp2
      go_ret
      have h := hcr'.out
      have hrs := h.rs
      rw [List.take_length] at hrs
      refine ⟨⟨w.heap.size, ds, []⟩, ?_, ⟨?_, ?_⟩, hrs, ⟨rfl, h.bare⟩, ?_, ?_, h.up⟩
      · simp [D2.v, h.len]
      · have := h.row
        simpa [znil] using this
      · intro x hx
        exact h.ok x (by simpa using hx)
      · simpa [D2.bl] using h.nodup
      · intro b hb
        exact h.low b (by simpa [D2.bl] using hb)

/-- Where Copy stands after k rounds. -/
structure CP (w wr : World) (B : Nat) (m : Mult) (k : Nat) (ds : List D2) : Prop where
  row : VRow wr B 27 (ds.map D2.v ++ znil (m.length - k))
  rs : ds.map D2.pts = m.take k
  len : ds.length = k
  bare : ∀ d ∈ ds, d.bare
  ok : ∀ d ∈ ds, OK2 wr d
  nodup : (B :: ds.flatMap D2.bl).Nodup
  low : ∀ b ∈ B :: ds.flatMap D2.bl, w.heap.size ≤ b
  up : Up w wr

theorem CP.start (w : World) (m : Mult) : CP w (w.alloc (.cells (znil m.length).toArray 27)) w.heap.size m 0 [] :=
  ⟨by simpa using VRow.new w (znil m.length) _, rfl, rfl, by simp, by simp, by simp, by simp, (Up.refl _).alloc _⟩

theorem CP.lt {w wr : World} {B : Nat} {m : Mult} {k : Nat} {ds : List D2} (h : CP w wr B m k ds) : ∀ x ∈ B :: ds.flatMap D2.bl, x < wr.heap.size := by
  intro x hx
  rcases List.mem_cons.1 hx with rfl | hx
  · exact h.row.lt
  · obtain ⟨d, hd, hx⟩ := List.mem_flatMap.1 hx
    exact (h.ok d hd).lt x hx

theorem CP.step {w wr wn : World} {B : Nat} {m : Mult} {k : Nat} {ds : List D2} (h : CP w wr B m k ds) {l : Poly} (hl : m[k]? = some l) {d : D2} (hup : Up wr wn) (hd : OK2 wn d) (hpts : d.pts = l) (hbare : d.bare)
    (hnd : d.bl.Nodup) (hlow : ∀ b ∈ d.bl, wr.heap.size ≤ b) : CP w (wn.setCell ⟨B, k, none⟩ d.v) B m (k + 1) (ds ++ [d]) := by
  have hk := Pl.lt_of_some hl
  have hB : B < wr.heap.size := h.row.lt
  have hW : w.heap.size ≤ wr.heap.size := h.up.size
  have hBl := h.low B (by simp)
  have hlt := h.lt
  refine ⟨?_, ?_, ?_, ?_, ?_, ?_, ?_, ?_⟩
  · have := (h.row.of_block (hup.block B hB)).set k d.v
    have e : m.length - k = (m.length - (k + 1)) + 1 := by omega
    rw [e] at this
    have e2 := set_at (ds.map D2.v) (.slice none 0 0) d.v (m.length - (k + 1))
    rw [List.length_map, h.len] at e2
    rw [znil, e2] at this
    simpa [znil] using this
  · rw [Pl.take_one hl, List.map_append, h.rs]; simp [hpts]
  · simp [h.len]
  · intro x hx
    rcases List.mem_append.1 hx with hx | hx
    · exact h.bare x hx
    · simp at hx; subst hx; exact hbare
  · intro x hx
    rcases List.mem_append.1 hx with hx | hx
    · refine ((h.ok x hx).up hup).of fun b hb => Below.heap_setCell _ _ _ _ ?_
      intro e
      subst e
      exact (List.nodup_cons.1 h.nodup).1 (List.mem_flatMap.2 ⟨x, hx, hb⟩)
    · simp at hx; subst hx
      refine hd.of fun b hb => Below.heap_setCell _ _ _ _ ?_
      have := hlow b hb
      show b ≠ B
      omega
  · rw [List.flatMap_append, ← List.cons_append, List.nodup_append]
    refine ⟨h.nodup, by simpa using hnd, ?_⟩
    intro a ha b hb
    have h1 := hlt a ha
    have h2 := hlow b (by simpa using hb)
    omega
  · intro b hb
    rw [List.flatMap_append, ← List.cons_append] at hb
    rcases List.mem_append.1 hb with hb | hb
    · exact h.low b hb
    · have := hlow b (by simpa using hb); omega
  · exact (h.up.trans hup).setCell hBl _

set_option maxRecDepth 100000 in
set_option maxHeartbeats 1000000 in
theorem copy_any (v : Value) (m : Mult) (w : World) (hv : Rd3 w v m) (hb : Pl.Bd m) :
    Calls Try.prog 9 #[v] w fun e w' => ∃ d : D3, e = .returned d.v ∧ OK3 w' d ∧ d.m = m ∧ d.bare ∧ d.bl.Nodup ∧ (∀ b ∈ d.bl, w.heap.size ≤ b) ∧ Up w w' := by
  obtain ⟨ao, cap, rfl, hm⟩ := hv
  have hlen := hb.len
  have hb' := hide hb
  have hmk := make_polys m.length (by omega)
  have hst := hide (CP.start w m)
  clear hb
  go_enter Try.func9, Try.ntmps9
  go_wp2
  clear hmk
  go_loopw [11] (fun i wr => ∃ (k : Nat) (ds : List D2), k ≤ m.length ∧ i = .int .i64 k ∧ CP w wr w.heap.size m k ds) (fun i _ => m.length - (intOf i).toNat)
  case atStart => exact ⟨0, [], Nat.zero_le _, rfl, hst.out⟩
  case round =>
    obtain ⟨k, ds, hk, rfl, hcr⟩ := hrel
    by_cases hlt : k < m.length
    · obtain ⟨l, hl⟩ := Pl.some_of_lt hlt
      obtain ⟨b, u, rfl, hc, hu⟩ := hm k l hl
      have hc' := hcr.up.cell hc
      have hu' := hide (hu.up hcr.up)
      have hl' := hide hl
      have hm' := hide hm
      have hold : Hid (wr.cell? ⟨w.heap.size, k, none⟩ = some (.slice none 0 0)) := hcr.row.cell (by
        rw [List.getElem?_append_right (by rw [List.length_map, hcr.len]; omega), List.length_map, hcr.len, Nat.sub_self]; exact rep_at (by omega))
      have hfz : Hid (wr.frozen? ⟨w.heap.size, k, none⟩ = false) := hcr.row.frozen k
      have hcr' := hide hcr
      have hBl : Hid (w.heap.size < wr.heap.size) := hcr.row.lt
      clear hl hm hc hu hcr
      have B1 := hide (hb'.out.poly l (Pl.mem_of_some hl'.out))
      have B2 := hide (hb'.out.ring l (Pl.mem_of_some hl'.out))
      go_wp2_with (go_at_call 16; refine (copyRings_any _ l _ ?_ ?_ ?_).mono ?_; exact hu'.out; exact B1.out; exact B2.out; rintro e wn ⟨d, rfl, hd, hpts, hbare, hnd, hlow, hup⟩; simp only [D2.v]; replace hd := hide hd; replace hpts := hide hpts; replace hbare := hide hbare; replace hnd := hide hnd; replace hlow := hide hlow; have hold2 := hup.cell hold.out; have hfz2 : wn.frozen? ⟨w.heap.size, k, none⟩ = false := (Below.frozen hup (p := ⟨w.heap.size, k, none⟩) hBl.out).trans hfz.out; replace hup := hide hup)
      go_roundw
      case rel => exact ⟨k + 1, _, by omega, by go_num, hcr'.out.step hl'.out hup.out hd.out hpts.out hbare.out hnd.out hlow.out⟩
      case measure => simp [intOf]; omega
    · have : k = m.length := by omega
      subst this
      have hcr' := hide hcr
      clear hcr
      go_wp2
      go_ret
      have h := hcr'.out
      have hrs := h.rs
      rw [List.take_length] at hrs
      refine ⟨⟨w.heap.size, ds, []⟩, ?_, ⟨?_, ?_⟩, hrs, ⟨rfl, h.bare⟩, ?_, ?_, h.up⟩
      · simp [D3.v, h.len]
      · have := h.row
        simpa [znil] using this
      · intro x hx
        exact h.ok x (by simpa using hx)
      · simpa [D3.bl] using h.nodup
      · intro b hb
        exact h.low b (by simpa [D3.bl] using hb)

/-- A set in memory: its pointer, where it lies, its lists. -/
structure Set3 (w : World) (v : Value) (m : Mult) (b : Nat) (d : D3) : Prop where
  ptr : v = .pointer (some ⟨b, 0, none⟩)
  cell : VRow w b 38 [d.v]
  ok : OK3 w d
  pts : d.m = m

set_option maxRecDepth 100000 in
set_option maxHeartbeats 1000000 in
theorem make_ok (v : Value) (m : Mult) (w : World) (hv : Rd3 w v m) (hb : Pl.Bd m) (h0 : Pl.wrong m = 0) :
    Calls Try.prog 6 #[v] w fun e w' => ∃ p b d, e = .returned (.tuple #[p, .int .i64 0]) ∧ Set3 w' p m b d ∧ (∀ x ∈ b :: d.bl, w.heap.size ≤ x) ∧ Up w w' := by
  have hv' := hide hv
  have hb' := hide hb
  have h0' := hide h0
  clear hv hb h0
  go_enter Try.func6, Try.ntmps6
  go_wp2_with (first
    | (go_at_call 8; refine (fault_any _ m _ ?_ ?_).mono ?_; exact hv'.out; exact hb'.out; rintro e w1 ⟨rfl, hup1⟩; replace hup1 := hide hup1; rw [h0'.out])
    | (go_at_call 9; refine (copy_any _ m _ ?_ ?_).mono ?_; exact hv'.out.up hup1.out; exact hb'.out; rintro e w2 ⟨d, rfl, hd, hm, hbare, hnd, hlow, hup2⟩; simp only [D3.v]; replace hd := hide hd; replace hm := hide hm; replace hup2 := hide hup2; replace hlow := hide hlow; clear hbare hnd))
  go_ret2
  refine ⟨_, _, d, rfl, ⟨rfl, VRow.new w2 [d.v] _, hd.out.up ((Up.refl _).alloc _), hm.out⟩, ?_, (hup1.out.trans hup2.out).alloc _⟩
  intro x hx
  have s1 := hup1.out.size
  have s2 := hup2.out.size
  rcases List.mem_cons.1 hx with rfl | hx
  · omega
  · have := hlow.out x hx; omega

set_option maxHeartbeats 1000000 in
theorem make_bad (v : Value) (m : Mult) (w : World) (hv : Rd3 w v m) (hb : Pl.Bd m) (h0 : Pl.wrong m ≠ 0) :
    Calls Try.prog 6 #[v] w fun e w' => e = .returned (.tuple #[.pointer none, .int .i64 (Pl.wrong m)]) ∧ Up w w' := by
  have hv' := hide hv
  have hb' := hide hb
  have h0' : (Pl.wrong m == 0) = false := beq_eq_false_iff_ne.2 h0
  clear hv hb h0
  generalize hx : Pl.wrong m = x at *
  have hx' := hide hx
  clear hx
  go_enter Try.func6, Try.ntmps6
  go_wp2_with (go_at_call 8; refine (fault_any _ m _ ?_ ?_).mono ?_; exact hv'.out; exact hb'.out; rintro e w1 ⟨rfl, hup1⟩; replace hup1 := hide hup1; rw [hx'.out])
  go_ret2
  exact ⟨rfl, hup1.out⟩

end Go.Proofs.Ytcclepohmhdpbab
