import Derived.Test.YtcclepohmhdpbabGreatDoorPnC
namespace Go.Proofs.YtcclepohmhdpbabGreatDoor
set_option linter.all false
open Go.RowKit Go.Deep
theorem VRow.up {w w' : World} {b : Nat} {t : TypeId} {vs : List Value} (h : VRow w b t vs) (k : Up w w') : VRow w' b t vs := h.of_block (k.block _ h.lt)
theorem side_at (s : Vd.Seg) (p : Pnt) : Vd.side s (Vd.at1 p) = Vd.sg (Vd.cr s.1 s.2 p 1) := rfl
theorem sg_bd (n : Int) : -1 ≤ Vd.sg n ∧ Vd.sg n ≤ 1 := by rcases Vd.sg_cases n with ⟨_, e⟩ | ⟨_, e⟩ | ⟨_, e⟩ <;> rw [e] <;> omega
def meetK (x : Int) (a b c d : Int) : Int := if a = 0 ∧ b = 0 ∧ c = 0 ∧ d = 0 then x else if a * b > 0 ∨ c * d > 0 then 0 else if a * b * c * d = 0 then 1 else 2
theorem meet_K (s t : Vd.Seg) : Vd.meetS s t = meetK (Vd.onLine (Vd.fwd s.1 s.2) (Vd.fwd t.1 t.2)) (Vd.side s (Vd.at1 t.1)) (Vd.side s (Vd.at1 t.2)) (Vd.side t (Vd.at1 s.1)) (Vd.side t (Vd.at1 s.2)) := rfl
set_option maxHeartbeats 4000000 in
theorem meet_any (s t : Vd.Seg) (hs : Vd.CdS s) (ht : Vd.CdS t) (w : World) : Calls Tryz.prog 130 #[segV s, segV t] w fun e w' => e = .returned (.int .i64 (Vd.meetS s t)) ∧ Up w w' := by
 have HE := hide (meet_K s t)
 have HS := hide hs
 have HT := hide ht
 obtain ⟨⟨ax, ay⟩, ⟨bx, bY⟩⟩ := s
 obtain ⟨⟨cx, cy⟩, ⟨dx, dy⟩⟩ := t
 clear hs ht
 simp only [segV]
 have R0 := hide ((new_row (w := w) (o := .cells #[.int .i64 ax, .int .i64 ay, .int .i64 bx, .int .i64 bY] 98) (vs := [.int .i64 ax, .int .i64 ay, .int .i64 bx, .int .i64 bY]) rfl).alloc (.cells #[.int .i64 cx, .int .i64 cy, .int .i64 dx, .int .i64 dy] 98))
 have R1 := hide ((new_row (w := w.alloc (.cells #[.int .i64 ax, .int .i64 ay, .int .i64 bx, .int .i64 bY] 98)) (o := .cells #[.int .i64 cx, .int .i64 cy, .int .i64 dx, .int .i64 dy] 98) (vs := [.int .i64 cx, .int .i64 cy, .int .i64 dx, .int .i64 dy]) rfl))
 rw [show (w.alloc (.cells #[.int .i64 ax, .int .i64 ay, .int .i64 bx, .int .i64 bY] 98)).heap.size = w.heap.size + 1 by simp] at R1
 have HU : Hid (Up w ((w.alloc (.cells #[.int .i64 ax, .int .i64 ay, .int .i64 bx, .int .i64 bY] 98)).alloc (.cells #[.int .i64 cx, .int .i64 cy, .int .i64 dx, .int .i64 dy] 98))) := ((Up.refl _).alloc _).alloc _
 go_enter Tryz.func130, Tryz.ntmps130
 go_wp2_with fail
 generalize (w.alloc (.cells #[.int .i64 ax, .int .i64 ay, .int .i64 bx, .int .i64 bY] 98)).alloc (.cells #[.int .i64 cx, .int .i64 cy, .int .i64 dx, .int .i64 dy] 98) = W at *
 have s0 := R0.out.gr (i := 0) rfl
 have s1 := R0.out.gr (i := 1) rfl
 have s2 := R0.out.gr (i := 2) rfl
 have s3 := R0.out.gr (i := 3) rfl
 have t0 := R1.out.gr (i := 0) rfl
 have t1 := R1.out.gr (i := 1) rfl
 have t2 := R1.out.gr (i := 2) rfl
 have t3 := R1.out.gr (i := 3) rfl
 refine wp_region_up (by kernel_rfl) (by kernel_rfl) ?_
 repeat (first | go_big_quiet_step ((first | (go_at_call 127; exact Calls.up_of (at_any (cx, cy) _)) | (go_at_call 126; exact Calls.up_of (side_any ((ax, ay), (bx, bY)) (Vd.at1 (cx, cy)) HS.out (Vd.at1_sp HT.out.1) _)))))
 refine wpQuiet_nil ?_
 rintro _ ⟨⟨w1, u⟩, rfl⟩
 replace R0 := hide (R0.out.up u)
 replace R1 := hide (R1.out.up u)
 replace HU := hide (HU.out.trans u)
 clear s0 s1 s2 s3 t0 t1 t2 t3 u
 go_wp2_with fail
 have s0 := R0.out.gr (i := 0) rfl
 have s1 := R0.out.gr (i := 1) rfl
 have s2 := R0.out.gr (i := 2) rfl
 have s3 := R0.out.gr (i := 3) rfl
 have t0 := R1.out.gr (i := 0) rfl
 have t1 := R1.out.gr (i := 1) rfl
 have t2 := R1.out.gr (i := 2) rfl
 have t3 := R1.out.gr (i := 3) rfl
 refine wp_region_up (by kernel_rfl) (by kernel_rfl) ?_
 repeat (first | go_big_quiet_step ((first | (go_at_call 127; exact Calls.up_of (at_any (dx, dy) _)) | (go_at_call 126; exact Calls.up_of (side_any ((ax, ay), (bx, bY)) (Vd.at1 (dx, dy)) HS.out (Vd.at1_sp HT.out.2) _)))))
 refine wpQuiet_nil ?_
 rintro _ ⟨⟨w2, u⟩, rfl⟩
 replace R0 := hide (R0.out.up u)
 replace R1 := hide (R1.out.up u)
 replace HU := hide (HU.out.trans u)
 clear s0 s1 s2 s3 t0 t1 t2 t3 u
 go_wp2_with fail
 have s0 := R0.out.gr (i := 0) rfl
 have s1 := R0.out.gr (i := 1) rfl
 have s2 := R0.out.gr (i := 2) rfl
 have s3 := R0.out.gr (i := 3) rfl
 have t0 := R1.out.gr (i := 0) rfl
 have t1 := R1.out.gr (i := 1) rfl
 have t2 := R1.out.gr (i := 2) rfl
 have t3 := R1.out.gr (i := 3) rfl
 refine wp_region_up (by kernel_rfl) (by kernel_rfl) ?_
 repeat (first | go_big_quiet_step ((first | (go_at_call 127; exact Calls.up_of (at_any (ax, ay) _)) | (go_at_call 126; exact Calls.up_of (side_any ((cx, cy), (dx, dy)) (Vd.at1 (ax, ay)) HT.out (Vd.at1_sp HS.out.1) _)))))
 refine wpQuiet_nil ?_
 rintro _ ⟨⟨w3, u⟩, rfl⟩
 replace R0 := hide (R0.out.up u)
 replace R1 := hide (R1.out.up u)
 replace HU := hide (HU.out.trans u)
 clear s0 s1 s2 s3 t0 t1 t2 t3 u
 go_wp2_with fail
 have s0 := R0.out.gr (i := 0) rfl
 have s1 := R0.out.gr (i := 1) rfl
 have s2 := R0.out.gr (i := 2) rfl
 have s3 := R0.out.gr (i := 3) rfl
 have t0 := R1.out.gr (i := 0) rfl
 have t1 := R1.out.gr (i := 1) rfl
 have t2 := R1.out.gr (i := 2) rfl
 have t3 := R1.out.gr (i := 3) rfl
 refine wp_region_up (by kernel_rfl) (by kernel_rfl) ?_
 repeat (first | go_big_quiet_step ((first | (go_at_call 127; exact Calls.up_of (at_any (bx, bY) _)) | (go_at_call 126; exact Calls.up_of (side_any ((cx, cy), (dx, dy)) (Vd.at1 (bx, bY)) HT.out (Vd.at1_sp HS.out.2) _)))))
 refine wpQuiet_nil ?_
 rintro _ ⟨⟨w4, u⟩, rfl⟩
 replace R0 := hide (R0.out.up u)
 replace R1 := hide (R1.out.up u)
 replace HU := hide (HU.out.trans u)
 clear s0 s1 s2 s3 t0 t1 t2 t3 u
 have B1 := sg_bd (Vd.cr (ax, ay) (bx, bY) (cx, cy) 1)
 have B2 := sg_bd (Vd.cr (ax, ay) (bx, bY) (dx, dy) 1)
 have B3 := sg_bd (Vd.cr (cx, cy) (dx, dy) (ax, ay) 1)
 have B4 := sg_bd (Vd.cr (cx, cy) (dx, dy) (bx, bY) 1)
 simp only [side_at] at HE ⊢
 generalize Vd.sg (Vd.cr (ax, ay) (bx, bY) (cx, cy) 1) = a at *
 generalize Vd.sg (Vd.cr (ax, ay) (bx, bY) (dx, dy) 1) = b at *
 generalize Vd.sg (Vd.cr (cx, cy) (dx, dy) (ax, ay) 1) = c at *
 generalize Vd.sg (Vd.cr (cx, cy) (dx, dy) (bx, bY) 1) = d at *
 have k1 : wrap64 (a * b) = a * b := w64 (by have := (mul_bd (a := a) (b := b) (A := 1) (B := 1) (by omega) (by omega) (by omega) (by omega)); omega) (by have := (mul_bd (a := a) (b := b) (A := 1) (B := 1) (by omega) (by omega) (by omega) (by omega)); omega)
 have k2 : wrap64 (c * d) = c * d := w64 (by have := (mul_bd (a := c) (b := d) (A := 1) (B := 1) (by omega) (by omega) (by omega) (by omega)); omega) (by have := (mul_bd (a := c) (b := d) (A := 1) (B := 1) (by omega) (by omega) (by omega) (by omega)); omega)
 have m1 := mul_bd (a := a) (b := b) (A := 1) (B := 1) (by omega) (by omega) (by omega) (by omega)
 have m2 := mul_bd (a := a * b) (b := c) (A := 1) (B := 1) (by omega) (by omega) (by omega) (by omega)
 have m3 := mul_bd (a := a * b * c) (b := d) (A := 1) (B := 1) (by omega) (by omega) (by omega) (by omega)
 have k3 : wrap64 (a * b * c) = a * b * c := w64 (by omega) (by omega)
 have k4 : wrap64 (a * b * c * d) = a * b * c * d := w64 (by omega) (by omega)
 by_cases hz : a = 0 ∧ b = 0 ∧ c = 0 ∧ d = 0
 ·obtain ⟨rfl, rfl, rfl, rfl⟩ := hz
  clear B1 B2 B3 B4 k1 k2 k3 k4 m1 m2 m3
  have HR : Hid (Vd.meetS ((ax, ay), bx, bY) ((cx, cy), dx, dy) = Vd.onLine (Vd.fwd (ax, ay) (bx, bY)) (Vd.fwd (cx, cy) (dx, dy))) := HE.out
  go_wp2_with fail
  have s0 := R0.out.gr (i := 0) rfl
  have s1 := R0.out.gr (i := 1) rfl
  have s2 := R0.out.gr (i := 2) rfl
  have s3 := R0.out.gr (i := 3) rfl
  have t0 := R1.out.gr (i := 0) rfl
  have t1 := R1.out.gr (i := 1) rfl
  have t2 := R1.out.gr (i := 2) rfl
  have t3 := R1.out.gr (i := 3) rfl
  refine wp_region_up (by kernel_rfl) (by kernel_rfl) ?_
  repeat (first | go_big_quiet_step ((first | (go_at_call_of 101 (Value.agg #[.int .i64 ax, .int .i64 ay, .int .i64 bx, .int .i64 bY]); exact Calls.up_of (forward_any ((ax, ay), (bx, bY)) _)) | (go_at_call 101; exact Calls.up_of (forward_any ((cx, cy), (dx, dy)) _)) | (go_at_call 148; exact Calls.up_of (online_any (Vd.fwd (ax, ay) (bx, bY)) (Vd.fwd (cx, cy) (dx, dy)) _)))))
  refine wpQuiet_nil ?_
  rintro _ ⟨⟨w5, u⟩, rfl⟩
  go_wp2
  go_ret
  exact ⟨ret_i HR.out.symm, HU.out.trans u⟩
 ·have HZ := hide hz
  have hcs : (a == 0) = false ∨ (a = 0 ∧ (b == 0) = false) ∨ (a = 0 ∧ b = 0 ∧ (c == 0) = false) ∨ (a = 0 ∧ b = 0 ∧ c = 0 ∧ (d == 0) = false) := by
   simp only [beq_eq_false_iff_ne]; omega
  by_cases p1 : 0 < a * b
  ·have HR : Hid (Vd.meetS ((ax, ay), bx, bY) ((cx, cy), dx, dy) = 0) := by rw [HE.out]; unfold meetK; rw [if_neg HZ.out, if_pos (.inl p1)]; exact rfl
   clear hz B1 B2 B3 B4 m1 m2 m3
   rcases hcs with h | ⟨rfl, h⟩ | ⟨rfl, rfl, h⟩ | ⟨rfl, rfl, rfl, h⟩
   all_goals
    first
    | (exfalso; simp at p1; done)
    | (go_wp2; go_ret; exact ⟨ret_i HR.out.symm, HU.out⟩)
  ·by_cases p2 : 0 < c * d
   ·have HR : Hid (Vd.meetS ((ax, ay), bx, bY) ((cx, cy), dx, dy) = 0) := by rw [HE.out]; unfold meetK; rw [if_neg HZ.out, if_pos (.inr p2)]; exact rfl
    clear hz B1 B2 B3 B4 m1 m2 m3
    rcases hcs with h | ⟨rfl, h⟩ | ⟨rfl, rfl, h⟩ | ⟨rfl, rfl, rfl, h⟩
    all_goals
     first
     | (exfalso; simp at p2; done)
     | (go_wp2; go_ret; exact ⟨ret_i HR.out.symm, HU.out⟩)
   ·by_cases p3 : a * b * c * d = 0
    ·have HR : Hid (Vd.meetS ((ax, ay), bx, bY) ((cx, cy), dx, dy) = 1) := by rw [HE.out]; unfold meetK; rw [if_neg HZ.out, if_neg (by omega), if_pos p3]; exact rfl
     clear hz B1 B2 B3 B4 m1 m2 m3
     rcases hcs with h | ⟨rfl, h⟩ | ⟨rfl, rfl, h⟩ | ⟨rfl, rfl, rfl, h⟩
     all_goals
      go_wp2
      go_ret
      exact ⟨ret_i HR.out.symm, HU.out⟩
    ·have HR : Hid (Vd.meetS ((ax, ay), bx, bY) ((cx, cy), dx, dy) = 2) := by rw [HE.out]; unfold meetK; rw [if_neg HZ.out, if_neg (by omega), if_neg p3]; exact rfl
     have p3' := beq_eq_false_iff_ne.2 p3
     clear hz B1 B2 B3 B4 m1 m2 m3
     rcases hcs with h | ⟨rfl, h⟩ | ⟨rfl, rfl, h⟩ | ⟨rfl, rfl, rfl, h⟩
     all_goals
      first
      | (exfalso; simp at p3; done)
      | (go_wp2; go_ret; exact ⟨ret_i HR.out.symm, HU.out⟩)
end Go.Proofs.YtcclepohmhdpbabGreatDoor
