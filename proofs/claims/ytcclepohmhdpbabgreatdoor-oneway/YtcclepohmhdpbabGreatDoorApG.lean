import Derived.Test.YtcclepohmhdpbabGreatDoorApB
import Derived.Test.YtcclepohmhdpbabGreatDoorApF
import Derived.Test.YtcclepohmhdpbabGreatDoorPnI
namespace Go.Proofs.YtcclepohmhdpbabGreatDoor
set_option linter.all false
open Go.RowKit Go.Deep
theorem find_step {α β : Type} {f : α → Option β} {L : List α} {k : Nat} {x : α} (h : L[k]? = some x) (h0 : (L.take k).findSome? f = none) (hx : f x = none) : (L.take (k + 1)).findSome? f = none := by
 rw [Pl.take_one h, List.findSome?_append, h0]; simp [hx]
theorem find_hit {α β : Type} {f : α → Option β} {L : List α} {k : Nat} {x : α} {p : β} (h : L[k]? = some x) (h0 : (L.take k).findSome? f = none) (hx : f x = some p) : L.findSome? f = some p := by
 have e : L = L.take k ++ L.drop k := (List.take_append_drop k L).symm
 rw [e, List.findSome?_append, h0, drop_at' h]; simp [hx]
structure SzA (a : Mult) : Prop where
 sz : Sz a
 rings : a.flatten.length ≤ 65536
 pts : a.flatten.flatten.length ≤ 65536
theorem SzA.cd {a : Mult} (h : SzA a) : Vd.CdL a.flatten := fun r hr => by
 obtain ⟨l, hl, hr⟩ := List.mem_flatten.1 hr
 exact h.sz.cd l hl r hr
theorem SzA.ring {a : Mult} (h : SzA a) : ∀ r ∈ a.flatten, r.length ≤ 1048576 := fun r hr => by
 obtain ⟨l, hl, hr⟩ := List.mem_flatten.1 hr
 have := h.sz.ring l hl r hr; omega
theorem szA_of {m : Mult} (h : Pl.wrong m = 0) : SzA m := by
 have hz := sz_of h
 have hmany : Pl.many m = false := by
  unfold Pl.wrong at h
  split at h
  ·omega
  ·rename_i k; simpa using k
 unfold Pl.many at hmany
 simp only [Bool.or_eq_false_iff, decide_eq_false_iff_not] at hmany
 obtain ⟨⟨h1, h2⟩, h3⟩ := hmany
 have e1 : m.flatten.length = Pl.nR m := by unfold Pl.nR; rw [List.length_flatten]
 have e2 : m.flatten.flatten.length = Pl.nP m := by
  unfold Pl.nP
  rw [List.length_flatten]
  clear hz h h1 h2 h3 e1
  induction m with
  | nil => rfl
  | cons l t ih => rw [List.flatten_cons, List.map_append, List.sum_append, ih, List.map_cons, List.sum_cons]; rfl
 exact ⟨hz, by omega, by omega⟩
theorem edges_cd {l : Poly} (h : Vd.CdL l) : ∀ s ∈ Vd.edges l, Vd.CdS s := fun s hs => by
 obtain ⟨r, hr, hs⟩ := List.mem_flatMap.1 hs
 exact Vd.segs_cd (h r hr) hs
theorem midsF_mp {s : Vd.Seg} {rings : Poly} (hs : Vd.CdS s) (hr : Vd.CdL rings) : ∀ (n : Nat) (f : Pnt), Vd.Cd f → ∀ m ∈ Vd.midsF n s f rings, Mp m := by
  intro n
  induction n with
  | zero => intro f _ m hm; cases hm
  | succ n ih =>
    intro f hf m hm
    unfold Vd.midsF at hm
    split at hm
    · cases hm
    · rcases List.mem_cons.1 hm with rfl | hm
      · have h2 := Vd.nextCut_cd (f := f) hs hr
        unfold Vd.Cd at hf h2
        unfold Mp Vd.midOf
        simp only
        omega
      · exact ih _ (Vd.nextCut_cd hs hr) m hm
theorem mids_mp {s : Vd.Seg} {rings : Poly} (hs : Vd.CdS s) (hr : Vd.CdL rings) : ∀ m ∈ Vd.mids s rings, Mp m := midsF_mp (Vd.fwd_cd hs) hr _ _ (Vd.fwd_cd hs).1
theorem cdL_app {a b : Poly} (h : Vd.CdL a) (k : Vd.CdL b) : Vd.CdL (a ++ b) := fun r hr => by
 rcases List.mem_append.1 hr with hr | hr
 ·exact h r hr
 ·exact k r hr
structure BD (w wr : World) (S : Nat) (vb x1 x2 x3 v5 : Value) (b : Mult) (E1 E2 E3 : List Vd.Seg) (cl : Poly) : Prop where
 up : Up w wr
 r0 : VRow wr w.heap.size 65 [.int .i64 0, .int .i64 0, .int .i64 0]
 srch : VRow wr S 96 [vb, x2, x3]
 ob : Rd3 wr vb b
 e1 : RdSeg wr x1 E1
 e2 : RdSeg wr x2 E2
 e3 : RdSeg wr x3 E3
 bo : Rd2 wr v5 cl
theorem BD.keep {w wr w2 : World} {S : Nat} {vb x1 x2 x3 v5 : Value} {b : Mult} {E1 E2 E3 : List Vd.Seg} {cl : Poly} (h : BD w wr S vb x1 x2 x3 v5 b E1 E2 E3 cl) (k : Up wr w2) : BD w w2 S vb x1 x2 x3 v5 b E1 E2 E3 cl :=
 ⟨h.up.trans k, h.r0.up k, h.srch.up k, h.ob.up k, h.e1.up k, h.e2.up k, h.e3.up k, h.bo.up k⟩
structure SzR (l : Poly) : Prop where
 len : l.length ≤ 131072
 pts : l.flatten.length ≤ 131072
 ring : ∀ r ∈ l, r.length ≤ 1048576
 cd : Vd.CdL l
theorem SzA.r {a : Mult} (h : SzA a) : SzR a.flatten := ⟨by have := h.rings; omega, by have := h.pts; omega, h.ring, h.cd⟩
theorem SzA.r2 {a b : Mult} (h : SzA a) (k : SzA b) : SzR (a.flatten ++ b.flatten) := by
 refine ⟨?_, ?_, ?_, cdL_app h.cd k.cd⟩
 ·rw [List.length_append]; have := h.rings; have := k.rings; omega
 ·rw [List.flatten_append, List.length_append]; have := h.pts; have := k.pts; omega
 ·intro r hr
  rcases List.mem_append.1 hr with hr | hr
  ·exact h.ring r hr
  ·exact k.ring r hr
theorem SzR.edges {l : Poly} (h : SzR l) : (Vd.edges l).length ≤ 1048576 := by have := edges_len l; have := h.pts; omega
set_option maxRecDepth 8000 in
set_option maxHeartbeats 8000000 in
theorem atBounds_any (va vb : Value) (a b : Mult) (w : World) (ha : Rd3 w va a) (hb : Rd3 w vb b) (za : SzA a) (zb : SzA b) :
    Calls Tryz.prog 48 #[va, vb] w fun e w' => e = .returned (spoV (Vd.atBounds a b)) ∧ Up w w' := by
  have HD : Hid (Vd.atBounds a b = (Vd.edges a.flatten).findSome? fun s => (Vd.mids s (a.flatten ++ b.flatten)).findSome? fun m => Vd.lookL b (Vd.edges (a.flatten ++ b.flatten)) s m (Vd.edges b.flatten)) := rfl
  have HA := hide ha
  have HB := hide hb
  have ZS := hide zb.sz
  have ZA := hide za.r
  have ZB := hide zb.r
  have ZC := hide (za.r2 zb)
  have K1 : Hid (∀ w', Up w w' → Calls Tryz.prog 68 #[va] w' fun e w'' => ∃ u us, e = .returned u ∧ Up w' w'' ∧ w''.ownsRow w'.heap.size 46 1 u us.length us ∧ RLs w' us a.flatten) := fun w' k => ringsOf_any _ a w' (ha.up k) za.sz.len (by have := za.rings; omega)
  have K2 : Hid (∀ w', Up w w' → Calls Tryz.prog 68 #[vb] w' fun e w'' => ∃ u us, e = .returned u ∧ Up w' w'' ∧ w''.ownsRow w'.heap.size 46 1 u us.length us ∧ RLs w' us b.flatten) := fun w' k => ringsOf_any _ b w' (hb.up k) zb.sz.len (by have := zb.rings; omega)
  clear ha hb za zb
  generalize hal : a.flatten = al at *
  generalize hbl : b.flatten = bl at *
  generalize hR : Vd.atBounds a b = R at *
  clear hal hbl hR
  obtain ⟨cl, hcl⟩ : ∃ cl, cl = al ++ bl := ⟨_, rfl⟩
  have HCL := hide hcl
  rw [← hcl] at HD ZC
  clear hcl
  obtain ⟨aa, ac, rfl, -⟩ := HA.out
  obtain ⟨ba, bc, rfl, -⟩ := HB.out
  have HU0 : Hid (Up w (w.alloc (.cells #[.int .i64 0, .int .i64 0, .int .i64 0] 65))) := (Up.refl _).alloc _
  have R0 := hide (new_row (w := w) (o := .cells #[.int .i64 0, .int .i64 0, .int .i64 0] 65) (vs := [_, _, _]) rfl)
  go_enter Tryz.func48, Tryz.ntmps48
  go_wp2_with fail
  refine (K1.out _ HU0.out).mono ?_
  rintro e w2 ⟨u1, us1, rfl, hz, hown, hrl⟩
  have HU2 := hide (HU0.out.trans hz)
  replace R0 := hide (R0.out.up hz)
  have O1 := hide hown
  have L1 := hide (hrl.up hz)
  clear hz hown hrl K1 HU0
  go_wp2_with fail
  refine (K2.out _ HU2.out).mono ?_
  rintro e w3 ⟨u2, us2, rfl, hz, hown, hrl⟩
  replace HU2 := hide (HU2.out.trans hz)
  replace R0 := hide (R0.out.up hz)
  replace O1 := hide (own_up O1.out hz)
  have O2 := hide hown
  replace L1 := hide (L1.out.up hz)
  have L2 := hide (hrl.up hz)
  have S1 := hide (own_src O1.out (by simp))
  have S2 := hide (own_src O2.out (by simp))
  have N1 := hide L1.out.one
  have N2 := hide L2.out.one
  have ON : Hid (w3.ownsRow w3.heap.size 46 1 (.slice none 0 0) 0 []) := World.ownsRow_nil _ _ _ _
  have hl1 : Hid (us1.length ≤ 131072) := by rw [L1.out.len]; exact ZA.out.len
  have hl2 : Hid (us2.length ≤ 131072) := by rw [L2.out.len]; exact ZB.out.len
  have hb1 : Hid (0 + us1.length ≤ 1073741824) := by have := hl1.out; show _ ≤ _; omega
  clear hz hown hrl K2
  go_upto_region 5 with (at_builtin; refine wpList_appR el_rings rfl (.tmp 20) (.tmp 21) rfl w3.heap.size _ _ _ (by rfl) ON.out u1 _ us1 (by rfl) S1.out N1.out hb1.out (Nat.le_refl _) ?_; intro v4 w4 hown4 hg4; have O4 := hide hown4; have HU4 : Hid (Up w3 w4) := Fr.up (S := fun _ => False) ((Fr.of_up (Up.refl w3)).grown hg4 fun x hx => by simp [Value.ownBlock] at hx) (fun _ _ h => h); clear hown4 hg4)
  simp only [Nat.zero_add, List.nil_append] at O4
  have S2' := hide (S2.out.up HU4.out)
  have hb2 : Hid (us1.length + us2.length ≤ 1073741824) := by have := hl1.out; have := hl2.out; show _ ≤ _; omega
  have hsz4 := hide HU4.out.size
  clear hb1 ON S1 S2
  go_upto_region 6 with (at_builtin; refine wpList_appR el_rings rfl (.tmp 23) (.tmp 24) rfl w3.heap.size v4 _ _ (by rfl) O4.out u2 _ us2 (by rfl) S2'.out N2.out hb2.out hsz4.out ?_; intro v5 w5 hown5 hg5; have O5 := hide hown5; have HU5 : Hid (Up w3 w5) := Fr.up (S := fun _ => False) ((Fr.of_up HU4.out).grown hg5 fun x hx => .inr (own_lt O4.out hx).1) (fun _ _ h => h); clear hown5 hg5)
  have LB : Hid (RLs w5 (us1 ++ us2) cl) := by rw [HCL.out]; exact ((L1.out.app L2.out).up HU5.out)
  have B5 : Hid (Rd2 w5 v5 cl) := LB.out.rd2 (by rw [List.length_append]; exact O5.out)
  have A5 : Hid (Rd2 w5 u1 al) := (L1.out.up HU5.out).rd2 (own_up O1.out HU5.out)
  have C5 : Hid (Rd2 w5 u2 bl) := (L2.out.up HU5.out).rd2 (own_up O2.out HU5.out)
  replace HU2 := hide (HU2.out.trans HU5.out)
  replace R0 := hide (R0.out.up HU5.out)
  clear O1 O2 O4 O5 L1 L2 LB HU4 HU5 S2' hb2 hsz4 N1 N2 hl1 hl2 HCL
  obtain ⟨ua, uc, e1⟩ := A5.out.len
  subst e1
  obtain ⟨va', vc, e1⟩ := C5.out.len
  subst e1
  obtain ⟨xa, xc, e1⟩ := B5.out.len
  subst e1
  have K3 := hide (edgesOf_any _ _ w5 C5.out (by have := ZB.out.len; omega) (by have := ZB.out.pts; omega) ZB.out.ring)
  have HC1 : Hid (∀ s ∈ Vd.edges al, Vd.CdS s) := edges_cd ZA.out.cd
  have HC2 : Hid (∀ s ∈ Vd.edges bl, Vd.CdS s) := edges_cd ZB.out.cd
  have HC3 : Hid (∀ s ∈ Vd.edges cl, Vd.CdS s) := edges_cd ZC.out.cd
  have hL1 := hide ZA.out.edges
  have hL2 := hide ZB.out.edges
  have hL3 := hide ZC.out.edges
  have K4 : Hid (∀ w', Up w5 w' → Calls Tryz.prog 69 #[.slice xa cl.length xc] w' fun e w'' => ∃ u, e = .returned u ∧ Up w' w'' ∧ w''.ownsRow w'.heap.size 98 4 u (Vd.edges cl).length (flatG segC (Vd.edges cl))) := fun w' k => edgesOf_any _ _ w' (B5.out.up k) (by have := ZC.out.len; omega) (by have := ZC.out.pts; omega) ZC.out.ring
  have K5 : Hid (∀ w', Up w5 w' → Calls Tryz.prog 69 #[.slice ua al.length uc] w' fun e w'' => ∃ u, e = .returned u ∧ Up w' w'' ∧ w''.ownsRow w'.heap.size 98 4 u (Vd.edges al).length (flatG segC (Vd.edges al))) := fun w' k => edgesOf_any _ _ w' (A5.out.up k) (by have := ZA.out.len; omega) (by have := ZA.out.pts; omega) ZA.out.ring
  generalize Vd.edges al = E1 at *
  generalize Vd.edges bl = E2 at *
  generalize Vd.edges cl = E3 at *
  clear A5 C5 ZA ZB
  go_wp2_with fail
  refine K3.out.mono ?_
  rintro e w6 ⟨x2, rfl, hz, hown⟩
  have D2 := hide (own_rdG (f := segC) (fun _ => rfl) hown)
  have HU6 := hide hz
  clear hz hown K3
  go_wp2_with fail
  refine (K4.out _ HU6.out).mono ?_
  rintro e w7 ⟨x3, rfl, hz, hown⟩
  have D3 := hide (own_rdG (f := segC) (fun _ => rfl) hown)
  replace HU6 := hide (HU6.out.trans hz)
  replace D2 := hide (D2.out.up hz)
  clear hz hown K4
  obtain ⟨a2, c2, e1⟩ : ∃ ao cap, x2 = .slice ao E2.length cap := by obtain ⟨ao, cap, e, -⟩ := D2.out; exact ⟨ao, cap, e⟩
  subst e1
  obtain ⟨a3, c3, e1⟩ : ∃ ao cap, x3 = .slice ao E3.length cap := by obtain ⟨ao, cap, e, -⟩ := D3.out; exact ⟨ao, cap, e⟩
  subst e1
  have HUs : Hid (Up w7 (w7.alloc (.cells #[.slice ba b.length bc, .slice a2 E2.length c2, .slice a3 E3.length c3] 96))) := (Up.refl _).alloc _
  have RS := hide (new_row (w := w7) (o := .cells #[.slice ba b.length bc, .slice a2 E2.length c2, .slice a3 E3.length c3] 96) (vs := [_, _, _]) rfl)
  go_wp2_with fail
  refine (K5.out _ (HU6.out.trans HUs.out)).mono ?_
  rintro e w9 ⟨x1, rfl, hz, hown⟩
  have D1 := hide (own_rdG (f := segC) (fun _ => rfl) hown)
  obtain ⟨a1, c1, e1⟩ : ∃ ao cap, x1 = .slice ao E1.length cap := by obtain ⟨ao, cap, e, -⟩ := D1.out; exact ⟨ao, cap, e⟩
  subst e1
  have HBD : Hid (BD w w9 w7.heap.size (.slice ba b.length bc) (.slice a1 E1.length c1) (.slice a2 E2.length c2) (.slice a3 E3.length c3) (.slice xa cl.length xc) b E1 E2 E3 cl) :=
    ⟨((HU2.out.trans HU6.out).trans HUs.out).trans hz, ((R0.out.up HU6.out).up HUs.out).up hz, RS.out.up hz, (((HB.out.up HU2.out).up HU6.out).up HUs.out).up hz, D1.out, (D2.out.up HUs.out).up hz, (D3.out.up HUs.out).up hz, ((B5.out.up HU6.out).up HUs.out).up hz⟩
  clear hz hown K5 HU2 R0 B5 D1 D2 D3 RS HUs HU6 HA HB
  generalize hS : w7.heap.size = S at *
  clear hS
  generalize hF : (fun s => (Vd.mids s cl).findSome? fun m => Vd.lookL b E3 s m E2) = F at *
  have HF : Hid (∀ s, F s = (Vd.mids s cl).findSome? fun m => Vd.lookL b E3 s m E2) := by subst hF; exact fun _ => rfl
  clear hF
  have i0 := hL1.out
  go_wp2_with fail
  go_loopw [35] (fun i wr => ∃ k : Nat, i = .int .i64 k ∧ k ≤ E1.length ∧ Hid (BD w wr S (.slice ba b.length bc) (.slice a1 E1.length c1) (.slice a2 E2.length c2) (.slice a3 E3.length c3) (.slice xa cl.length xc) b E1 E2 E3 cl) ∧ Hid ((E1.take k).findSome? F = none)) (fun i _ => E1.length - (intOf i).toNat)
  case atStart => exact ⟨0, rfl, Nat.zero_le _, HBD, rfl⟩
  case round =>
    clear HBD
    obtain ⟨k, rfl, hk, HBD, HE⟩ := hrel
    by_cases hlt : k < E1.length
    · obtain ⟨s, hs⟩ := Pl.some_of_lt hlt
      obtain ⟨g, cap', ev, d0, d1, d2, d3⟩ := HBD.out.e1.seg hs
      cases ev
      have HCk := hide (HC1.out s (Pl.mem_of_some hs))
      have HSt : Hid (F s = none → (E1.take (k + 1)).findSome? F = none) := fun h => find_step hs HE.out h
      have HHit : Hid (∀ p, F s = some p → R = some p) := fun p h => by rw [HD.out]; exact find_hit hs HE.out h
      have HFs := hide (HF.out s)
      have HMp := hide (mids_mp HCk.out ZC.out.cd)
      have HSp := hide (Vd.mids_sp HCk.out ZC.out.cd)
      have KM : Hid (∀ w', Up wr w' → Calls Tryz.prog 70 #[segV s, .slice xa cl.length xc] w' fun e w'' => ∃ u, e = .returned u ∧ Up w' w'' ∧ w''.ownsRow w'.heap.size 65 3 u (Vd.mids s cl).length (flatG spotC (Vd.mids s cl))) := fun w' kk => middles_any s _ cl w' HCk.out (HBD.out.bo.up kk) (by have := ZC.out.len; omega) ZC.out.ring (by have := ZC.out.pts; omega) ZC.out.cd
      have hML : (Vd.mids s cl).length ≤ 1048576 := by have := Vd.mids_len s cl; have := ZC.out.pts; omega
      have KA : Hid (∀ m ∈ Vd.mids s cl, ∀ w', Up wr w' → Calls Tryz.prog 71 #[.pointer (some ⟨S, 0, none⟩), segV s, spotV m] w' fun e w'' => e = .returned (spoV (Vd.lookL b E3 s m E2)) ∧ Up w' w'') := fun m hm w' kk =>
        lookAt_any S _ _ _ b E2 E3 s m w' (HBD.out.srch.up kk) (HBD.out.ob.up kk) ZS.out (HBD.out.e2.up kk) HC2.out (by have := hL2.out; omega) (nearC_of (HBD.out.srch.up kk) (HBD.out.e3.up kk) (by have := hL3.out; omega) HC3.out (HMp.out m hm)) HCk.out (HSp.out m hm)
      generalize Vd.mids s cl = Ms at *
      generalize hG : (fun m => Vd.lookL b E3 s m E2) = G at *
      have HG : Hid (∀ m, Vd.lookL b E3 s m E2 = G m) := by subst hG; exact fun _ => rfl
      simp only [HG.out] at KA
      clear hG HG hs
      obtain ⟨⟨ax, ay⟩, ⟨bx, bY⟩⟩ := s
      simp only [segV, spotV] at d0 d1 d2 d3 KM KA
      have HUa : Hid (Up wr (wr.alloc (.cells #[.int .i64 ax, .int .i64 ay, .int .i64 bx, .int .i64 bY] 98))) := (Up.refl _).alloc _
      have RT := hide (new_row (w := wr) (o := .cells #[.int .i64 ax, .int .i64 ay, .int .i64 bx, .int .i64 bY] 98) (vs := [_, _, _, _]) rfl)
      obtain ⟨wo, hwo⟩ : ∃ wo : World, wo = wr := ⟨_, rfl⟩
      subst hwo
      have i1 : (0 : Int) ≤ (k : Int) := by omega
      have i2 : (k : Int) < (E1.length : Int) := by omega
      go_wp2_with fail
      refine (KM.out _ HUa.out).mono ?_
      rintro e w2 ⟨mv, rfl, hz, hown⟩
      have HU2 := hide (HUa.out.trans hz)
      replace RT := hide (RT.out.up hz)
      have HSp2 := hide (own_rdG (f := spotC) (fun _ => rfl) hown)
      obtain ⟨ma, mc, e1⟩ : ∃ ao cap, mv = .slice ao Ms.length cap := by obtain ⟨ao, cap, e, -⟩ := HSp2.out; exact ⟨ao, cap, e⟩
      subst e1
      clear hz hown KM HUa d0 d1 d2 d3
      generalize hB : wo.heap.size = B at *
      clear hB
      go_wp2_with fail
      go_loopw [43] (fun i wq => ∃ q : Nat, i = .int .i64 q ∧ q ≤ Ms.length ∧ Hid (Up w2 wq) ∧ Hid ((Ms.take q).findSome? G = none)) (fun i _ => Ms.length - (intOf i).toNat)
      case atStart => exact ⟨0, rfl, Nat.zero_le _, Up.refl _, rfl⟩
      case round =>
        obtain ⟨q, rfl, hq, HUq, HN⟩ := hrel
        by_cases hlq : q < Ms.length
        · obtain ⟨m, hm⟩ := Pl.some_of_lt hlq
          obtain ⟨g', cap'', ev, d0, d1, d2⟩ := (HSp2.out.up HUq.out).spot hm
          cases ev
          have KAm := hide (KA.out m (Pl.mem_of_some hm))
          have HSt2 : Hid (G m = none → (Ms.take (q + 1)).findSome? G = none) := fun h => find_step hm HN.out h
          have HH2 : Hid (∀ p, G m = some p → R = some p) := fun p h => HHit.out p (by rw [HFs.out]; exact find_hit hm HN.out h)
          generalize G m = Y at *
          obtain ⟨⟨x, y⟩, d⟩ := m
          simp only at d0 d1 d2 KAm
          have i3 : (0 : Int) ≤ (q : Int) := by omega
          have i4 : (q : Int) < (Ms.length : Int) := by omega
          have RTq := hide (RT.out.up HUq.out)
          have HUb : Hid (Up wo (wr.alloc (.cells #[.int .i64 x, .int .i64 y, .int .i64 d] 65))) := (HU2.out.trans HUq.out).alloc _
          have t0 := fun o => (RTq.out.alloc o).cell (i := 0) rfl
          have t1 := fun o => (RTq.out.alloc o).cell (i := 1) rfl
          have t2 := fun o => (RTq.out.alloc o).cell (i := 2) rfl
          have t3 := fun o => (RTq.out.alloc o).cell (i := 3) rfl
          clear hm
          go_wp2_with fail
          refine (KAm.out _ HUb.out).mono ?_
          rintro e w4 ⟨rfl, hz⟩
          have HU4 : Hid (Up w2 w4) := (HUq.out.alloc _).trans hz
          clear hz d0 d1 d2 t0 t1 t2 t3 KAm HUb
          cases Y with
          | none =>
            simp only [spoV, Option.getD_none, Option.isSome_none, spotV]
            have HU5 : Hid (∀ o, Up w2 (w4.alloc o)) := fun o => HU4.out.alloc o
            go_wp2
            go_roundw
            case rel => exact ⟨q + 1, by go_num, by omega, HU5.out _, HSt2.out rfl⟩
            case measure => simp [intOf]; omega
          | some p =>
            have HR := hide (HH2.out p rfl)
            obtain ⟨⟨p1, p2⟩, p3⟩ := p
            simp only [spoV, Option.getD_some, Option.isSome_some, spotV]
            have HB4 := hide ((HBD.out.keep (HU2.out.trans HU4.out)).keep ((Up.refl w4).alloc (.cells #[.int .i64 p1, .int .i64 p2, .int .i64 p3] 65)))
            obtain ⟨f0, f1, f2⟩ := back3 HB4.out.r0
            have r0 := HB4.out.r0.cell (i := 0) rfl
            have r1 := HB4.out.r0.cell (i := 1) rfl
            have r2 := HB4.out.r0.cell (i := 2) rfl
            have rz := fun i => HB4.out.r0.frozen i
            go_wp2
            refine bodyPost_ret (v := .tuple #[.agg #[.int .i64 p1, .int .i64 p2, .int .i64 p3], .bool true]) (by simp [results, Tryz.results48, go_sem, f0, f1, f2]) rfl ⟨by rw [HR.out]; rfl, ?_⟩
            repeat (refine Up.setCell ?_ (by simp) _)
            exact HB4.out.up
        · have HNs : Hid ((E1.take (k + 1)).findSome? F = none) := HSt.out (by rw [HFs.out]; have := HN.out; rwa [show q = Ms.length by omega, List.take_length] at this)
          have HB5 := hide (HBD.out.keep (HU2.out.trans HUq.out))
          go_wp2
          go_roundw
          case rel => exact ⟨k + 1, by go_num, by omega, HB5, HNs⟩
          case measure => simp [intOf]; omega
    · have hk2 : k = E1.length := by omega
      have HR : Hid (R = none) := by rw [HD.out]; have := HE.out; rwa [hk2, List.take_length] at this
      clear hk2
      obtain ⟨f0, f1, f2⟩ := back3 HBD.out.r0
      have r0 := HBD.out.r0.cell (i := 0) rfl
      have r1 := HBD.out.r0.cell (i := 1) rfl
      have r2 := HBD.out.r0.cell (i := 2) rfl
      have rz := fun i => HBD.out.r0.frozen i
      go_wp2
      refine bodyPost_ret (v := .tuple #[.agg #[.int .i64 0, .int .i64 0, .int .i64 0], .bool false]) (by simp [results, Tryz.results48, go_sem, f0, f1, f2]) rfl ⟨by rw [HR.out]; rfl, ?_⟩
      repeat (refine Up.setCell ?_ (by simp) _)
      exact HBD.out.up
set_option maxRecDepth 8000 in
set_option maxHeartbeats 4000000 in
theorem spot_any (va vb : Value) (a b : Mult) (w : World) (ha : Rd3 w va a) (hb : Rd3 w vb b) (za : SzA a) (zb : SzA b) :
    Calls Tryz.prog 34 #[va, vb] w fun e w' => e = .returned (spoV (Vd.spot a b)) ∧ Up w w' := by
  have HD : Hid (Vd.spot a b = match Vd.atBounds a b with | some p => some p | none => Vd.atBounds b a) := rfl
  have K1 : Hid (∀ w', Up w w' → Calls Tryz.prog 48 #[va, vb] w' fun e w'' => e = .returned (spoV (Vd.atBounds a b)) ∧ Up w' w'') := fun w' k => atBounds_any va vb a b w' (ha.up k) (hb.up k) za zb
  have K2 : Hid (∀ w', Up w w' → Calls Tryz.prog 48 #[vb, va] w' fun e w'' => e = .returned (spoV (Vd.atBounds b a)) ∧ Up w' w'') := fun w' k => atBounds_any vb va b a w' (hb.up k) (ha.up k) zb za
  obtain ⟨aa, ac, rfl, -⟩ := ha
  obtain ⟨ba, bc, rfl, -⟩ := hb
  generalize Vd.spot a b = R at *
  generalize Vd.atBounds a b = X at *
  generalize Vd.atBounds b a = Y at *
  clear za zb
  have HU0 : Hid (Up w (w.alloc (.cells #[.int .i64 0, .int .i64 0, .int .i64 0] 65))) := (Up.refl _).alloc _
  have R0 := hide (new_row (w := w) (o := .cells #[.int .i64 0, .int .i64 0, .int .i64 0] 65) (vs := [_, _, _]) rfl)
  go_enter Tryz.func34, Tryz.ntmps34
  go_wp2_with fail
  refine (K1.out _ HU0.out).mono ?_
  rintro e w2 ⟨rfl, hz⟩
  have HU2 := hide (HU0.out.trans hz)
  replace R0 := hide (R0.out.up hz)
  clear hz K1 HU0
  cases X with
  | some p =>
    have HR : Hid (R = some p) := HD.out
    obtain ⟨⟨p1, p2⟩, p3⟩ := p
    simp only [spoV, Option.getD_some, Option.isSome_some, spotV]
    have R4 := hide (R0.out.alloc (.cells #[.int .i64 p1, .int .i64 p2, .int .i64 p3] 65))
    obtain ⟨f0, f1, f2⟩ := back3 R4.out
    have r0 := R4.out.cell (i := 0) rfl
    have r1 := R4.out.cell (i := 1) rfl
    have r2 := R4.out.cell (i := 2) rfl
    have rz := fun i => R4.out.frozen i
    go_wp2
    refine bodyPost_ret (v := .tuple #[.agg #[.int .i64 p1, .int .i64 p2, .int .i64 p3], .bool true]) (by simp [results, Tryz.results34, go_sem, f0, f1, f2]) rfl ⟨by rw [HR.out]; rfl, ?_⟩
    repeat (refine Up.setCell ?_ (by simp) _)
    exact HU2.out.alloc _
  | none =>
    have HR : Hid (R = Y) := HD.out
    simp only [spoV, Option.getD_none, Option.isSome_none, spotV]
    have HU3 : Hid (Up w (w2.alloc (.cells #[.int .i64 0, .int .i64 0, .int .i64 0] 65))) := HU2.out.alloc _
    replace R0 := hide (R0.out.alloc (.cells #[.int .i64 0, .int .i64 0, .int .i64 0] 65))
    go_wp2_with fail
    refine (K2.out _ HU3.out).mono ?_
    rintro e w5 ⟨rfl, hz⟩
    have HU5 := hide (HU3.out.trans hz)
    replace R0 := hide (R0.out.up hz)
    clear hz K2
    have HV : Hid (spoV R = .tuple #[.agg #[.int .i64 (Y.getD ((0, 0), 0)).1.1, .int .i64 (Y.getD ((0, 0), 0)).1.2, .int .i64 (Y.getD ((0, 0), 0)).2], .bool Y.isSome]) := by rw [HR.out]; exact rfl
    simp only [spoV, spotV]
    clear HR HD
    generalize Y.isSome = G at *
    generalize Y.getD ((0, 0), 0) = Z at *
    obtain ⟨⟨p1, p2⟩, p3⟩ := Z
    simp only
    obtain ⟨f0, f1, f2⟩ := back3 R0.out
    have r0 := R0.out.cell (i := 0) rfl
    have r1 := R0.out.cell (i := 1) rfl
    have r2 := R0.out.cell (i := 2) rfl
    have rz := fun i => R0.out.frozen i
    go_wp2
    refine bodyPost_ret (v := .tuple #[.agg #[.int .i64 p1, .int .i64 p2, .int .i64 p3], .bool G]) (by simp [results, Tryz.results34, go_sem, f0, f1, f2]) rfl ⟨by rw [HV.out], ?_⟩
    repeat (refine Up.setCell ?_ (by simp) _)
    exact HU5.out
end Go.Proofs.YtcclepohmhdpbabGreatDoor
