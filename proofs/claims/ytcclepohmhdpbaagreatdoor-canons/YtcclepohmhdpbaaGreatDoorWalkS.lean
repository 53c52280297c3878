/- THE WALKS: (*World).step, Points. -/
import Derived.Test.YtcclepohmhdpbaaGreatDoorWalkR
import Derived.Deep.DeepCutAuto
namespace Go.Proofs.YtcclepohmhdpbaaGreatDoor
set_option linter.all false
open Go.RowKit Go.Deep
attribute [local go_sem ↓] Go.wp_at_zero Go.wp_at_succ

set_option maxRecDepth 100000 in
set_option maxHeartbeats 4000000 in
theorem step_points0 {w0 : World} (w : World) (Wb : Nat) (psv outv : Value) (mk : Int) (O : List OG) (L : L3) (n : Nat) (h : Inv w0 w Wb psv outv mk [] O L n) (a b c : Int) (s : ByteArray) :
    Calls Tryz.prog 43 #[.pointer (some ⟨Wb, 0, none⟩), .agg #[.int .i64 8, .int .i64 a, .int .i64 b, .int .i64 c, .string s]] w fun e w' => e = .returned (.bool true) ∧ Inv w0 w' Wb psv outv mk [] O L (n + 1) := by
  obtain ⟨ao, cap, hv⟩ := own_len h.ops
  have hv' := hide hv
  have h' := hide h
  clear h hv
  go_enter Tryz.func43, Tryz.ntmps43
  go_wp2_with (go_at_call 67; refine (owner_other _ Wb 8 a b c s rfl rfl rfl rfl).mono ?_; rintro e w1 ⟨rfl, hu1⟩; have hkd := hu1.cell ((VRow.new w [.int .i64 8, .int .i64 a, .int .i64 b, .int .i64 c, .string s] 46).cell (i := 0) rfl); have hI := h'.out.up (((Up.refl w).alloc _).trans hu1); have c0 := hI.wrow.c0; rw [hv'.out] at c0; replace hI := hide hI; clear hu1)
  go_ret
  exact ⟨rfl, hI.out.more⟩

set_option maxRecDepth 100000 in
set_option maxHeartbeats 4000000 in
theorem step_points {w0 : World} (w : World) (Wb : Nat) (psv outv : Value) (mk : Int) (S : List SG) (O : List OG) (L : L3) (n : Nat) (h : Inv w0 w Wb psv outv mk S O L n) (hn : n ≤ 1048576) (hS : 0 < S.length) (a b c : Int) (s : ByteArray) (ha0 : -9223372036854775808 ≤ a) (ha1 : a ≤ 9223372036854775807) :
    Calls Tryz.prog 43 #[.pointer (some ⟨Wb, 0, none⟩), .agg #[.int .i64 8, .int .i64 a, .int .i64 b, .int .i64 c, .string s]] w fun e w' => e = .returned (.bool true) ∧ ∃ outv' mk' O', Inv w0 w' Wb psv outv' mk' S O' L (n + 1) := by
  obtain ⟨G, cap, hv, _⟩ := own_cell h.ops hS
  have hSl : S.length ≤ 1048576 := by have := h.bS; omega
  have hne0 : ((S.length : Int) == 0) = false := beq_eq_false_iff_ne.2 (by omega)
  have hv' := hide hv
  have h' := hide h
  clear h hv
  go_enter Tryz.func43, Tryz.ntmps43
  go_wp2_with (go_at_call 67; refine (owner_other _ Wb 8 a b c s rfl rfl rfl rfl).mono ?_; rintro e w1 ⟨rfl, hu1⟩; have hkd := hu1.cell ((VRow.new w [.int .i64 8, .int .i64 a, .int .i64 b, .int .i64 c, .string s] 46).cell (i := 0) rfl); have hka := hu1.cell ((VRow.new w [.int .i64 8, .int .i64 a, .int .i64 b, .int .i64 c, .string s] 46).cell (i := 1) rfl); have hI := h'.out.up (((Up.refl w).alloc _).trans hu1); have c0 := hI.wrow.c0; rw [hv'.out] at c0; replace hI := hide hI; clear hu1)
  have c0a := fun o => ((Up.refl w1).alloc o).cell c0
  have hkaa := fun o => ((Up.refl w1).alloc o).cell hka
  have hcell : Hid (∀ (i : Nat) sg, S[i]? = some sg → w1.cell? ⟨G, i * 2, none⟩ = some sg.x ∧ w1.cell? ⟨G, i * 2 + 1, none⟩ = some sg.dm.v) := by
    intro i sg hsg
    obtain ⟨G', cap', e, hc⟩ := own_cell hI.out.ops hS
    rw [hv'.out] at e
    cases e
    have := cellsS_at S i sg hsg
    exact ⟨hc _ _ this.1, hc _ _ this.2⟩
  have hptr : Hid (∀ (i : Nat) sg, S[i]? = some sg → ∃ bx, sg.x = .pointer (some ⟨bx, 0, none⟩)) := fun i sg hsg => ⟨sg.bx, (hI.out.sets sg (Pl.mem_of_some hsg)).ptr⟩
  go_upto_region 11 with fail
  go_cut [6] (fun sl wc => ∃ (pb i : Nat) (sg : SG), sl = .pointer (some ⟨pb, 0, none⟩) ∧ Hid (S[i]? = some sg ∧ Up w1 wc ∧ VRow wc pb 52 [sg.x, sg.dm.v]))
  case first =>
    go_region_with ((go_at_call 16; refine (pick_any a S.length _ hS hSl ha0 ha1).mono ?_; rintro e w2 ⟨⟨i, hi, rfl⟩, rfl⟩; have hi2 : (i : Int) < (S.length : Int) := (by omega); obtain ⟨sg, hsg⟩ := Pl.some_of_lt hi; obtain ⟨q1, q2⟩ := hcell.out i sg hsg; obtain ⟨bx, hbx⟩ := hptr.out i sg hsg; rw [hbx] at q1; rw [SV.v] at q2; have q1a := fun o => ((Up.refl w1).alloc o).cell q1; have q2a := fun o => ((Up.refl w1).alloc o).cell q2; replace hsg := hide hsg; replace hbx := hide hbx))
    all_goals
      go_wp2
      go_meet
      case rel => exact ⟨w1.heap.size, i, sg, rfl, hsg.out, (by first | exact ((Up.refl w1).alloc _).drew | exact (Up.refl w1).alloc _), (by rw [hbx.out, SV.v]; first | exact VRow.drewN (VRow.new w1 _ _) 1 | exact VRow.new w1 _ _)⟩
  case rest =>
    obtain ⟨pb, i, sg, rfl, hcut⟩ := hcut
    obtain ⟨hsg, hu, hrow⟩ := hcut.out
    have hd := hu.cell hkd
    have hI2 := hide (hI.out.up hu)
    have hset := hide (hI2.out.sets sg (Pl.mem_of_some hsg))
    have r0 := hrow.cell (i := 0) (v := sg.x) rfl
    have r1 := hrow.cell (i := 1) (v := sg.dm.v) rfl
    obtain ⟨bx, hbx⟩ := hptr.out i sg hsg
    have hbx' := hide hbx
    rw [hbx] at r0
    rw [SV.v] at r1
    have hOb : Hid (O.length ≤ 536870912) := by have := hI.out.bO; show _ ≤ _; omega
    have hmk0 := hide hI.out.mk0
    have hmk1 : Hid (mk ≤ 562949953421312) := by have := hI.out.mk1; show _ ≤ _; omega
    have htold := hide (told_k (fun b => ¬ Mut Wb psv outv L b) wc Wb psv L.v outv mk O sg.x sg.m sg.bx sg.dx.v sg.dm.a sg.dm.n sg.dm.c hI2.out.wrow hI2.out.oout hI2.out.outs (fun b hb => ⟨fun e => hb (.inl e), fun e => hb (.inr (.inr (.inl e)))⟩) hset.out.ptr ((hset.out.kx.keep (Fr.refl (fun _ => False) _) fun b _ hb => ⟨⟨fun e => hb (.inl e), fun e => hb (.inr (.inr (.inl e)))⟩, fun h => h⟩).mono fun w h => ⟨h.1, h.2.rd⟩) ((hset.out.km.keep (Fr.refl (fun _ => False) _) fun b _ hb => ⟨⟨fun e => hb (.inl e), fun e => hb (.inr (.inr (.inl e)))⟩, fun h => h⟩).mono fun w h => h.rd) hset.out.bd (wrong_many hset.out.ok0) hOb.out hmk0.out hmk1.out)
    rw [hbx] at htold
    clear hsg hu hrow hcut hkd hka c0 c0a hkaa hbx
    go_wp2_with fail
    refine htold.out.mono ?_
    rintro e w3 ⟨rfl, hq⟩
    replace hq := hide hq
    go_wp2
    go_ret
    obtain ⟨outv', O', mk', t⟩ := hq.out
    exact ⟨rfl, outv', mk', O', hI2.out.told t⟩

end Go.Proofs.YtcclepohmhdpbaaGreatDoor
