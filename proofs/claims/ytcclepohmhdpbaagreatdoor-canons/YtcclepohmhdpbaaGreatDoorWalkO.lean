/- THE WALKS: (*World).made. -/
import Derived.Test.YtcclepohmhdpbaaGreatDoorLists
namespace Go.Proofs.YtcclepohmhdpbaaGreatDoor
set_option linter.all false
open Go.RowKit Go.Deep

theorem nP_nonneg (m : Mult) : Pl.nR m + m.length ≤ tot m := by unfold tot; omega

set_option maxRecDepth 100000 in
set_option maxHeartbeats 4000000 in
theorem made_any {w0 : World} (w : World) (Wb : Nat) (psv outv : Value) (mk : Int) (S : List SG) (O : List OG) (L : L3) (n : Nat) (h : Inv w0 w Wb psv outv mk S O L n) (hn : n ≤ 1048576) :
    Calls Tryz.prog 17 #[.pointer (some ⟨Wb, 0, none⟩), L.v] w fun e w' => e = .returned (.bool true) ∧ ∃ psv' mk' S', Inv w0 w' Wb psv' outv mk' S' O L (n + 1) := by
  have hbd := hide (tot_bd h.tot_ hn)
  have hrd := hide h.lok.rd
  have h' := hide h
  have hWw := hide (VRow.lt h.wrow)
  have hmk0 := h.mk0
  have hmk1 := h.mk1
  have htot := hide h.tot_
  have hSb : Hid (S.length ≤ 1073741824) := by have := h.bS; show _ ≤ _; omega
  clear h
  go_enter Tryz.func17, Tryz.ntmps17
  go_wp2_with fail
  refine (copied_any L.v L.m w hrd.out hbd.out).mono ?_
  rintro e w1 ⟨d1, rfl, ho1, hm1, hk1, hn1, hl1, hu1⟩
  replace ho1 := hide ho1
  replace hm1 := hide hm1
  replace hk1 := hide hk1
  replace hn1 := hide hn1
  replace hl1 := hide hl1
  replace hu1 := hide hu1
  go_wp2_with fail
  refine (copied_any L.v L.m w1 (hrd.out.up hu1.out) hbd.out).mono ?_
  rintro e w2 ⟨d2, rfl, ho2, hm2, hk2, hn2, hl2, hu2⟩
  replace ho2 := hide ho2
  replace hm2 := hide hm2
  replace hl2 := hide hl2
  replace hu2 := hide hu2
  clear hk2 hn2
  have rd1 : Hid (Rd3 w2 d1.v L.m) := by have := (ho1.out.up hu2.out).rd; rw [hm1.out] at this; exact this
  have rd2 : Hid (Rd3 w2 d2.v L.m) := by have := ho2.out.rd; rw [hm2.out] at this; exact this
  have hoff := hide (off_eq d1)
  have hpl : Hid (d1.ps.length = L.m.length) := by rw [← hm1.out]; simp [Hid, D3.m]
  have hbd1 : Hid (Pl.Bd d1.m) := by rw [hm1.out]; exact hbd.out
  have hob : Hid ((off d1.ps : Int) ≤ 1048576) := by
    have h1 := hoff.out
    have h2 := hpl.out
    rw [hm1.out] at h1
    have h3 := nP_nonneg L.m
    have h4 := htot.out
    show _ ≤ _
    omega
  by_cases h0 : Pl.wrong L.m = 0
  · have h0' := hide h0
    clear h0
    go_wp2_with fail
    refine (make_ok d1.v L.m w2 rd1.out hbd.out h0'.out).mono ?_
    rintro e w3 ⟨xp, bx, dx, rfl, hs3, hl3, hu3⟩
    obtain rfl := hs3.ptr
    replace hs3 := hide hs3
    replace hl3 := hide hl3
    replace hu3 := hide hu3
    go_wp2_with fail
    refine (wrong_any d2.v L.m w3 (rd2.out.up hu3.out) hbd.out).mono ?_
    rintro e w4 ⟨rfl, hd4⟩
    replace hd4 : Hid (Up w3 w4) := Dr.up hd4
    rw [h0'.out]
    go_wp2_with fail
    refine (alike_same d1.v d2.v L.m w4 ((rd1.out.up hu3.out).up hd4.out) ((rd2.out.up hu3.out).up hd4.out) hbd.out).mono ?_
    rintro e w5 ⟨rfl, hd5⟩
    replace hd5 : Hid (Up w4 w5) := Dr.up hd5
    have hu5 : Hid (Up w2 w5) := (hu3.out.trans hd4.out).trans hd5.out
    have ho5 : Hid (OK3 w5 d1) := (ho1.out.up hu2.out).up hu5.out
    go_wp2_with fail
    refine (marked_any d1 L.m w5 ho5.out hk1.out hm1.out hbd.out).mono ?_
    rintro e w6 ⟨rfl, rfl⟩
    have hW5 : Hid (WR w6 Wb psv L.v outv mk) := VRow.of_block h'.out.wrow (((hu1.out.trans hu2.out).trans hu5.out).block _ hWw.out)
    go_wp2_with fail
    refine (spoil_any d1 w6 Wb psv L.v outv mk ho5.out hn1.out (fun e => by have := hl1.out Wb e; have := hWw.out; omega) hW5.out hbd1.out hmk0 (by omega)).mono ?_
    rintro e w7 ⟨rfl, hs7⟩
    replace hs7 := hide hs7
    have hO7 : Hid (w7.ownsRow 0 52 2 psv S.length (cellsS S)) := own_fr (own_up h'.out.ops ((hu1.out.trans hu2.out).trans hu5.out)) hs7.out.fr (fun g e e2 => by
      rcases e2 with e2 | e2
      · have h1 := hl1.out g e2
        have h2 := (own_lt h'.out.ops e).2
        omega
      · exact own_row_ne h'.out.ops h'.out.wrow (by decide) (e2 ▸ e))
    go_wp2_with fail
    refine (keep_any w7 Wb psv L.v outv _ S hs7.out.wrow hO7.out hSb.out bx d2).mono ?_
    rintro e w8 ⟨rfl, psv', hW8, hO8, hf8, hat8⟩
    replace hW8 := hide hW8
    replace hO8 := hide hO8
    replace hf8 := hide hf8
    replace hat8 := hide hat8
    go_wp2
    go_ret
    have z1 := hu1.out.size
    have z2 := hu2.out.size
    have z3 := hu3.out.size
    have z5 := hu5.out.size
    have z7 := hs7.out.fr.size
    have zd1 := ho1.out.lt
    have zW := hWw.out
    have hpsv : ∀ b, psv.ownBlock = some b → b < w.heap.size := fun b e => (own_lt h'.out.ops e).2
    have u36 : Up w3 w6 := hd4.out.trans hd5.out
    have n7 : ∀ b, w1.heap.size ≤ b → ¬ (b ∈ d1.bl ∨ b = Wb) := fun b hb e => by
      rcases e with e | e
      · have := zd1 b e; omega
      · omega
    have n8 : ∀ b, w.heap.size ≤ b → ¬ (b = Wb ∨ psv.ownBlock = some b) := fun b hb e => by
      rcases e with e | e
      · omega
      · have := hpsv b e; omega
    have hsx := hs3.out.lt
    have hset : Set3 w8 (.pointer (some ⟨bx, 0, none⟩)) L.m bx dx := by
      have q6 : Set3 w6 (.pointer (some ⟨bx, 0, none⟩)) L.m bx dx := hs3.out.frr (Fr.of_up (S := fun _ => False) u36) fun _ _ e => e
      have q7 := q6.frr hs7.out.fr fun b hb => n7 b (by have := hl3.out b hb; omega)
      exact q7.frr hf8.out fun b hb => n8 b (by have := hl3.out b hb; omega)
    have hok2 : OK3 w8 d2 := by
      have q6 := ho2.out.up hu5.out
      have q7 := hs7.out.fr.ok3 q6 fun b hb => n7 b (hl2.out b hb)
      exact hf8.out.ok3 q7 fun b hb => n8 b (by have := hl2.out b hb; omega)
    refine ⟨rfl, psv', mk + off d1.ps + 1, S ++ [⟨.pointer (some ⟨bx, 0, none⟩), L.m, bx, dx.sv, d2.sv⟩], h'.out.made_ok (s := ⟨.pointer (some ⟨bx, 0, none⟩), L.m, bx, dx.sv, d2.sv⟩) ?_ hW8.out (by omega) (by have := hob.out; omega) hO8.out (N := w7.heap.size) (by omega) hat8.out (SetOK.of3 hset hok2 hm2.out ?_ ?_ hbd.out h0'.out)⟩
    · refine (((Fr.of_up ((hu1.out.trans hu2.out).trans hu5.out)).then hs7.out.fr fun x hx e => ?_)).then hf8.out fun x _ e => e
      rcases e with e | e
      · have := hl1.out x e; omega
      · exact .inl e
    · intro b hb
      have h1 := hl3.out b hb
      have h2 := hsx b hb
      have h3 := u36.size
      show _ ∧ _
      omega
    · intro b hb
      have h1 := hl2.out b hb
      have h2 := ho2.out.lt b hb
      show _ ∧ _
      omega
  · have h0' := hide h0
    have h0b : (Pl.wrong L.m == 0) = false := beq_eq_false_iff_ne.2 h0
    have h0c : (Pl.wrong L.m != 0) = true := bne_iff_ne.2 h0
    clear h0
    generalize hwr : Pl.wrong L.m = e0 at *
    have hwr' := hide hwr
    clear hwr
    go_wp2_with fail
    refine (make_bad d1.v L.m w2 rd1.out hbd.out (by rw [hwr'.out]; exact h0'.out)).mono ?_
    rintro e w3 ⟨rfl, hu3⟩
    rw [hwr'.out]
    replace hu3 := hide hu3
    go_wp2_with fail
    refine (wrong_any d2.v L.m w3 (rd2.out.up hu3.out) hbd.out).mono ?_
    rintro e w4 ⟨rfl, hd4⟩
    replace hd4 : Hid (Up w3 w4) := Dr.up hd4
    rw [hwr'.out]
    go_wp2_with fail
    refine (alike_same d1.v d2.v L.m w4 ((rd1.out.up hu3.out).up hd4.out) ((rd2.out.up hu3.out).up hd4.out) hbd.out).mono ?_
    rintro e w5 ⟨rfl, hd5⟩
    replace hd5 : Hid (Up w4 w5) := Dr.up hd5
    have hu5 : Hid (Up w2 w5) := (hu3.out.trans hd4.out).trans hd5.out
    have ho5 : Hid (OK3 w5 d1) := (ho1.out.up hu2.out).up hu5.out
    go_wp2_with fail
    refine (marked_any d1 L.m w5 ho5.out hk1.out hm1.out hbd.out).mono ?_
    rintro e w6 ⟨rfl, rfl⟩
    have hW5 : Hid (WR w6 Wb psv L.v outv mk) := VRow.of_block h'.out.wrow (((hu1.out.trans hu2.out).trans hu5.out).block _ hWw.out)
    go_wp2_with fail
    refine (spoil_any d1 w6 Wb psv L.v outv mk ho5.out hn1.out (fun e => by have := hl1.out Wb e; have := hWw.out; omega) hW5.out hbd1.out hmk0 (by omega)).mono ?_
    rintro e w7 ⟨rfl, hs7⟩
    replace hs7 := hide hs7
    go_wp2
    go_ret
    refine ⟨rfl, psv, mk + off d1.ps + 1, S, h'.out.made_bad ?_ hs7.out.wrow (by omega) (by have := hob.out; omega)⟩
    refine ((Fr.of_up ((hu1.out.trans hu2.out).trans hu5.out)).then hs7.out.fr fun x hx e => ?_)
    rcases e with e | e
    · have := hl1.out x e; omega
    · exact e

end Go.Proofs.YtcclepohmhdpbaaGreatDoor
