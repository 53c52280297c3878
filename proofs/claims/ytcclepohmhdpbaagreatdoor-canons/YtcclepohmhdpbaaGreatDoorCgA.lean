/- THE LAW's canonical. -/
import Derived.Test.YtcclepohmhdpbaaGreatDoorCfB
import Derived.Test.YtcclepohmhdpbaaGreatDoorLwB
import Derived.Test.YtcclepohmhdpbaaGreatDoorRfP
namespace Go.Proofs.YtcclepohmhdpbaaGreatDoor
set_option linter.all false
open Go.RowKit Go.Deep

/-- One set more, of blocks that are new. -/
theorem Inv.canon_ok {w0 w w1 w3 w4 : World} {Wb : Nat} {psv psv' outv : Value} {mk : Int} {S : List SG} {O : List OG} {L : L3} {n : Nat} (h : Inv w0 w Wb psv outv mk S O L n) {b G : Nat} {X : List PG} {a : Option Addr} {c : Nat} {D : List DcP} {m : Mult}
    (u1 : Up w w1) (hb : w.heap.size ≤ b) (hrow : VRow w1 b 78 [.slice (some ⟨G, 0, none⟩) X.length X.length]) (hN : NS w.heap.size w1 G X) (e1 : PG.m X = m) (u3 : Up w1 w3) (hD : DcO w.heap.size w3 (.slice a D.length c) D) (e2 : D.map DcP.m = m) (h0 : Pl.wrong m = 0)
    (hW : WR w4 Wb psv' L.v outv mk) (hown : w4.ownsRow 0 52 2 psv' (S.length + 1) (cellsS S ++ [.pointer (some ⟨b, 0, none⟩), .slice a D.length c])) (hf : Fr (fun b => b = Wb ∨ psv.ownBlock = some b) w3 w4) (hat : psv'.ownBlock = psv.ownBlock ∨ ∃ g, psv'.ownBlock = some g ∧ w3.heap.size ≤ g) :
    ∃ S', Inv w0 w4 Wb psv' outv mk S' O L (n + 1) := by
  have hs3 : w.heap.size ≤ w3.heap.size := Nat.le_trans u1.size u3.size
  have hWl : Wb < w.heap.size := VRow.lt h.wrow
  have hpl : ∀ x, psv.ownBlock = some x → x < w.heap.size := fun x e => (own_lt h.ops e).2
  have ne : ∀ x, w.heap.size ≤ x → ¬ (x = Wb ∨ psv.ownBlock = some x) := fun x hx e => by
    rcases e with e | e
    · omega
    · have := hpl x e; omega
  have k1 := ((((hN.kept hb hrow).keep (F' := fun x => w.heap.size ≤ x) (Fr.of_up (S := fun _ => False) u3) fun x _ hx => ⟨hx, fun e => e⟩).strong).keep (F' := fun x => w.heap.size ≤ x ∧ x < w3.heap.size) hf fun x _ hx => ⟨hx, ne x hx.1⟩)
  have k2 := ((hD.kept.strong).keep (F' := fun x => w.heap.size ≤ x ∧ x < w3.heap.size) hf fun x _ hx => ⟨hx, ne x hx.1⟩)
  rw [e1] at k1
  rw [e2] at k2
  refine ⟨_, h.made_ok (s := ⟨.pointer (some ⟨b, 0, none⟩), m, b, ⟨some ⟨G, 0, none⟩, X.length, X.length⟩, ⟨a, D.length, c⟩⟩) ?_ hW (Int.le_refl _) (by omega) hown (N := w3.heap.size) hs3 hat ⟨rfl, k1, k2, bd_of h0, h0⟩⟩
  exact (Fr.of_up (u1.trans u3)).then hf fun x _ e => e
set_option maxRecDepth 8000 in
set_option maxHeartbeats 4000000 in
theorem lawCanon_any {w0 : World} (w : World) (Wb : Nat) (psv outv : Value) (mk : Int) (S : List SG) (O : List OG) (L : L3) (n : Nat) (h : Inv w0 w Wb psv outv mk S O L n) (hn : n ≤ 1048576) (sg : SG) (hsg : sg ∈ S) :
    Calls Tryz.prog 35 #[.pointer (some ⟨Wb, 0, none⟩), .agg #[sg.x, sg.dm.v]] w fun e w' => e = .returned (.bool true) ∧ ∃ psv' S', Inv w0 w' Wb psv' outv mk S' O L (n + 1) := by
  have HI := hide h
  have hset := h.sets sg hsg
  have h0 := hset.ok0
  have HS : Hid (SetR w sg.x sg.m sg.bx sg.dx.v) := ⟨hset.ptr, hset.kx.now.1, hset.kx.now.2.rd⟩
  have HO := hide hset.km.now
  have HZ := hide (sz_of h0)
  have HG := hide (Vd.good_of h0)
  have H0 := hide h0
  have hSb : Hid (S.length ≤ 1073741824) := by have := h.bS; show _ ≤ _; omega
  have hp := hset.ptr
  obtain ⟨bx, hbx⟩ : ∃ bx, sg.bx = bx := ⟨_, rfl⟩
  obtain ⟨xv, hxv⟩ : ∃ xv, sg.dx.v = xv := ⟨_, rfl⟩
  obtain ⟨m, hm⟩ : ∃ m, sg.m = m := ⟨_, rfl⟩
  rw [hp] at HS ⊢
  rw [hbx, hxv, hm] at HS
  rw [hm] at HO HZ HG H0
  rw [hbx]
  rw [SV.v] at HO ⊢
  generalize sg.dm.a = da at *
  generalize sg.dm.n = dn at *
  generalize sg.dm.c = dc at *
  have HU0 : Hid (Up w (w.alloc (.cells #[.pointer (some ⟨bx, 0, none⟩), .slice da dn dc] 52))) := (Up.refl _).alloc _
  have R0 := hide (new_row (w := w) (o := .cells #[.pointer (some ⟨bx, 0, none⟩), .slice da dn dc] 52) (vs := [.pointer (some ⟨bx, 0, none⟩), .slice da dn dc]) rfl)
  have HV : Hid (∀ w', Up w w' → Calls Tryz.prog 34 #[.slice da dn dc] w' fun e w'' => e = .returned (.int .i64 (Vd.least m)) ∧ Up w' w'') := fun w' hu => valid_any _ m w' (HO.out.up hu) HZ.out HG.out
  clear h hset h0 hp hbx hxv hm hsg
  by_cases hv : Vd.least m = 0
  · have HK := hide (canonical_ok _ m _ bx xv (HS.out.up HU0.out) HZ.out (fz_of H0.out hv) hv)
    have HE := hide (Vd.form_eq (Vd.vr_of HG.out (Vd.least0 hv).1))
    have HW0 := hide (Vd.canon_wrong H0.out (Vd.vr_of HG.out (Vd.least0 hv).1))
    have HCd : Hid (∀ w', Up w w' → Calls Tryz.prog 58 #[.slice da dn dc] w' fun e w'' => ∃ (u : Value) (L : List DcP), e = .returned u ∧ Up w' w'' ∧ DcO w'.heap.size w'' u L ∧ L.map DcP.m = Vd.canonD m) := fun w' hu => canonD_any _ m w' (HO.out.up hu).rd (dz_of H0.out hv)
    rw [hv] at HV
    clear hv
    go_enter Tryz.func35, Tryz.ntmps35
    have s0 := R0.out.cell (i := 0) rfl
    go_wp2_with fail
    refine HK.out.mono ?_
    rintro e w1 ⟨b, G, X, rfl, hb, hrow, hNS, hPG, hu1⟩
    have HU1 := hide (HU0.out.trans hu1)
    have HB : Hid (w.heap.size ≤ b) := Nat.le_trans HU0.out.size hb
    have HRow := hide hrow
    have HNS : Hid (NS w.heap.size w1 G X) := ⟨Nat.le_trans HU0.out.size hNS.low, hNS.row, fun x hx => (hNS.ok x hx).base HU0.out.size⟩
    have HPG : Hid (PG.m X = Vd.canonD m) := hPG.trans HE.out
    have R1 := hide (R0.out.up hu1)
    have s1 := R1.out.cell (i := 1) rfl
    clear hu1 s0 HK hb hrow hNS hPG
    go_wp2_with fail
    refine (HV.out _ HU1.out).mono ?_
    rintro e w2 ⟨rfl, hu2⟩
    have HU2 := hide (HU1.out.trans hu2)
    have HU12 := hide hu2
    have s2 := hu2.cell s1
    clear hu2 s1
    go_wp2_with fail
    refine (HCd.out _ HU2.out).mono ?_
    rintro e w3 ⟨u, D, rfl, hu3, hD, hDm⟩
    obtain ⟨ca, cc, rfl⟩ := own_len hD.own
    have HU3 := hide (HU2.out.trans hu3)
    have HU13 := hide (HU12.out.trans hu3)
    have HD : Hid (DcO w.heap.size w3 (.slice ca D.length cc) D) := ⟨own_base hD.own HU2.out.size, fun x hx => (hD.ok x hx).base HU2.out.size⟩
    have HDm := hide hDm
    have HW3 : Hid (WR w3 Wb psv L.v outv mk) := VRow.of_block HI.out.wrow (HU3.out.block _ (VRow.lt HI.out.wrow))
    have HO3 := hide (own_up HI.out.ops HU3.out)
    clear hu3 hD hDm s2
    go_wp2_with fail
    refine (keep_gen w3 Wb psv L.v outv mk S HW3.out HO3.out hSb.out b ca D.length cc).mono ?_
    rintro e w4 ⟨rfl, psv', hW4, hO4, hf4, hat4⟩
    have HQ := hide (HI.out.canon_ok HU1.out HB.out HRow.out HNS.out HPG.out HU13.out HD.out HDm.out HW0.out hW4 hO4 hf4 hat4)
    clear hW4 hO4 hf4 hat4
    go_wp2
    go_ret
    obtain ⟨S', hq⟩ := HQ.out
    exact ⟨rfl, psv', S', hq⟩
  · have HK := hide (canonical_invalid _ m _ bx xv (HS.out.up HU0.out) HZ.out hv)
    have hv' := bne_iff_ne.2 hv
    have hv2 := beq_eq_false_iff_ne.2 hv
    generalize Vd.least m = I at *
    clear hv
    go_enter Tryz.func35, Tryz.ntmps35
    have s0 := R0.out.cell (i := 0) rfl
    go_wp2_with fail
    refine HK.out.mono ?_
    rintro e w1 ⟨rfl, hu1⟩
    have HU1 := hide (HU0.out.trans hu1)
    have R1 := hide (R0.out.up hu1)
    have s1 := R1.out.cell (i := 1) rfl
    clear hu1 s0 HK
    go_wp2_with fail
    refine (HV.out _ HU1.out).mono ?_
    rintro e w2 ⟨rfl, hu2⟩
    have HU2 := hide (HU1.out.trans hu2)
    clear hu2 s1
    go_wp2
    go_ret
    exact ⟨rfl, psv, S, (HI.out.up HU2.out).more⟩
end Go.Proofs.YtcclepohmhdpbaaGreatDoor
