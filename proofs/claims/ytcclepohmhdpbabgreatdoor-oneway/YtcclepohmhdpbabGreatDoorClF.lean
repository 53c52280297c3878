import Derived.Test.YtcclepohmhdpbabGreatDoorClE
namespace Go.Proofs.YtcclepohmhdpbabGreatDoor
set_option linter.all false
open Go.RowKit Go.Deep
def tpN (l : Poly) (ps : List Pnt) : List Pnt := ps.foldl (Vd.touchF l) []
theorem tpN_snoc (l : Poly) (ps : List Pnt) (p : Pnt) : tpN l (ps ++ [p]) = Vd.touchF l (tpN l ps) p := by unfold tpN; rw [List.foldl_append]; rfl
theorem touchF_len (l : Poly) (a : List Pnt) (p : Pnt) : (Vd.touchF l a p).length ≤ a.length + 1 := by unfold Vd.touchF; split <;> simp
theorem tpN_len (l : Poly) : ∀ (ps : List Pnt) (a : List Pnt), (ps.foldl (Vd.touchF l) a).length ≤ a.length + ps.length := by
 intro ps
 induction ps with
 | nil => intro a; simp
 | cons p t ih => intro a; rw [List.foldl_cons]; have := ih (Vd.touchF l a p); have := touchF_len l a p; simp; omega
theorem touchF_yes {l : Poly} {a : List Pnt} {p : Pnt} (h1 : decide (p ∈ a) = false) (h2 : 1 < (Vd.ringsAt l p).length) : Vd.touchF l a p = a ++ [p] := if_pos ⟨of_decide_eq_false h1, h2⟩
theorem touchF_in {l : Poly} {a : List Pnt} {p : Pnt} (h1 : decide (p ∈ a) = true) : Vd.touchF l a p = a := if_neg fun h => h.1 (of_decide_eq_true h1)
theorem touchF_few {l : Poly} {a : List Pnt} {p : Pnt} (h2 : ¬ 1 < (Vd.ringsAt l p).length) : Vd.touchF l a p = a := if_neg fun h => h2 h.2
theorem ringsAt_len (l : Poly) (p : Pnt) : (Vd.ringsAt l p).length ≤ l.length := rgN_len l p l.length
set_option maxHeartbeats 8000000 in
theorem touchPoints_any (v : Value) (l : Poly) (w : World) (hv : Rd2 w v l) (hl : l.length ≤ 1048576) (hl2 : ∀ r ∈ l, r.length ≤ 1048576) (hf : l.flatten.length ≤ 1048576) (hc : Vd.CdL l) :
  Calls Tryz.prog 96 #[v] w fun e w' => ∃ u, e = .returned u ∧ Up w w' ∧ w'.ownsRow w.heap.size 48 2 u (Vd.touchPts l).length (flat (Vd.touchPts l)) := by
 have HV := hide hv
 obtain ⟨ao, cap, rfl, hm⟩ := hv
 have HM := hide hm
 have HC := hide hc
 have HL := hide hl2
 have HF := hide hf
 clear hm hc hl2 hf
 go_enter Tryz.func96, Tryz.ntmps96
 go_wp2
 go_loopw [3, 10] (fun av i wr => ∃ (k : Nat) (u : Value), i = .int .i64 k ∧ u = av ∧ k ≤ l.length ∧ Hid (Up w wr) ∧ Hid (wr.ownsRow w.heap.size 48 2 u (tpN l (l.take k).flatten).length (flat (tpN l (l.take k).flatten)))) (fun _ i _ => l.length - (intOf i).toNat)
 case atStart => exact ⟨0, _, rfl, rfl, Nat.zero_le _, Up.refl _, World.ownsRow_nil _ _ _ _⟩
 case round =>
  obtain ⟨k, u, rfl, rfl, hk, HU, HO⟩ := hrel
  by_cases hlt : k < l.length
  ·obtain ⟨r, hr⟩ := Pl.some_of_lt hlt
   obtain ⟨b, y, rfl, cu, hy⟩ := HM.out k r hr
   obtain ⟨ao2, cap2, rfl, hp⟩ := hy
   have HP := hide hp
   have cu2 := HU.out.cell cu
   have hrl := HL.out r (Pl.mem_of_some hr)
   have HrC := hide (HC.out r (Pl.mem_of_some hr))
   have HFl := hide (flat_take hr)
   have HFb : Hid ((l.take k).flatten.length + r.length ≤ 1048576) := by
    have h1 : (l.take (k + 1)).flatten.length ≤ l.flatten.length := by
     conv => rhs; rw [← List.take_append_drop (k + 1) l, List.flatten_append, List.length_append]
     omega
    rw [flat_take hr, List.length_append] at h1
    have := HF.out
    show _ ≤ _
    omega
   clear hr cu hp
   go_wp2
   clear cu2
   go_loopw [3, 16] (fun av i wr => ∃ (q : Nat) (u : Value), i = .int .i64 q ∧ u = av ∧ q ≤ r.length ∧ Hid (Up w wr) ∧ Hid (wr.ownsRow w.heap.size 48 2 u (tpN l ((l.take k).flatten ++ r.take q)).length (flat (tpN l ((l.take k).flatten ++ r.take q))))) (fun _ i _ => r.length - (intOf i).toNat)
   case atStart => exact ⟨0, _, rfl, rfl, Nat.zero_le _, HU, by rw [List.take_zero, List.append_nil]; exact HO⟩
   case round =>
    clear HU HO
    obtain ⟨q, u, rfl, rfl, hq, HU, HO⟩ := hrel
    by_cases hlq : q < r.length
    ·obtain ⟨⟨px, py⟩, hxy⟩ := Pl.some_of_lt hlq
     obtain ⟨b2, rfl, cx, cy⟩ := HP.out q (px, py) hxy
     have cx' := HU.out.cell cx
     have cy' := HU.out.cell cy
     dsimp only at cx' cy'
     have HCp := hide (HrC.out _ (Pl.mem_of_some hxy))
     have HX : Hid (tpN l ((l.take k).flatten ++ r.take (q + 1)) = Vd.touchF l (tpN l ((l.take k).flatten ++ r.take q)) (px, py)) := by
      rw [Pl.take_one hxy, ← List.append_assoc, tpN_snoc]; exact rfl
     have hal : (tpN l ((l.take k).flatten ++ r.take q)).length ≤ 1048576 := by
      have h1 := tpN_len l ((l.take k).flatten ++ r.take q) []
      have h2 := HFb.out
      simp only [List.length_append, List.length_take, List.length_nil] at h1
      unfold tpN
      omega
     generalize hT : tpN l ((l.take k).flatten ++ r.take q) = T at *
     have HO' := hide (own_rd1 HO.out)
     obtain ⟨ta, tc, rfl⟩ := own_len HO.out
     clear hxy cx cy hT
     go_wp2_with fail
     have RP := hide (new_row (w := wr) (o := .cells #[.int .i64 px, .int .i64 py] 48) (vs := [.int .i64 px, .int .i64 py]) rfl)
     refine (isAmong_any _ T (px, py) _ (HO'.out.up ((Up.refl _).alloc _)) hal).mono ?_
     rintro e w2 ⟨rfl, hz2⟩
     have RP2 := hide (RP.out.up hz2)
     have HU2 : Hid (Up w w2) := (HU.out.alloc _).trans hz2
     have HO2 := hide (own_up HO.out (((Up.refl wr).alloc _).trans hz2))
     have p0 := RP2.out.cell (i := 0) rfl
     have p1 := RP2.out.cell (i := 1) rfl
     clear hz2 cx' cy' RP
     cases hin : decide ((px, py) ∈ T)
     ·have Hin := hide hin
      clear hin
      go_wp2_with fail
      refine (ringsAt_any _ l (px, py) _ (HV.out.up HU2.out) hl HL.out HC.out HCp.out).mono ?_
      rintro e w3 ⟨rv, rfl, hz3, hro⟩
      obtain ⟨ra, rc, rfl⟩ := own_len hro
      have RP3 := hide (RP2.out.up hz3)
      have HU3 := hide (HU2.out.trans hz3)
      have HO3 := hide (own_up HO2.out hz3)
      have hrn := ringsAt_len l (px, py)
      have g0 := RP3.out.cell (i := 0) rfl
      have g1 := RP3.out.cell (i := 1) rfl
      clear hz3 hro p0 p1
      by_cases hn : 1 < (Vd.ringsAt l (px, py)).length
      ·have HE := hide (HX.out.trans (touchF_yes Hin.out hn))
       generalize (Vd.ringsAt l (px, py)).length = n at *
       have HOA := hide (HO3.out.alloc (.cells #[.int .i64 px, .int .i64 py] 48))
       have hb : Hid (T.length ≤ 1073741824) := by show _ ≤ _; omega
       have hsz := hide HU3.out.size
       go_wp2_with (at_builtin; refine wpList_app el_pts rfl (.tmp 31) (.tmp 33) rfl w.heap.size _ _ _ (by rfl) HOA.out w3.heap.size [.int .i64 px, .int .i64 py] (by rfl) rfl (heap_alloc_new w3 _) (by intro x hx; simp at hx; rcases hx with rfl | rfl <;> rfl) hb.out (by simp; have := hsz.out; omega) ?_; intro g cap w5 hown5 hg5 hat5 hlt5; replace hown5 := hide hown5; replace hg5 := hide hg5; clear hat5 hlt5)
       go_roundw
       case rel =>
        refine ⟨q + 1, _, by go_num, rfl, by omega, ?_, ?_⟩
        ·exact Fr.up (S := fun _ => False) (((Fr.of_up HU3.out).alloc _).grown hg5.out fun x hx => .inr (own_lt HOA.out hx).1) (fun _ _ h => h)
        ·rw [HE.out, flat_append, List.length_append]; exact hown5.out
       case measure => simp [intOf]; omega
      ·have HE := hide (HX.out.trans (touchF_few hn))
       generalize (Vd.ringsAt l (px, py)).length = n at *
       go_wp2
       go_roundw
       case rel => exact ⟨q + 1, _, by go_num, rfl, by omega, HU3, by rw [HE.out]; exact HO3⟩
       case measure => simp [intOf]; omega
     ·have HE := hide (HX.out.trans (touchF_in hin))
      clear hin
      go_wp2
      go_roundw
      case rel => exact ⟨q + 1, _, by go_num, rfl, by omega, HU2, by rw [HE.out]; exact HO2⟩
      case measure => simp [intOf]; omega
    ·have hq2 : q = r.length := by omega
     subst hq2
     rw [List.take_length, ← HFl.out] at HO
     go_wp2
     go_roundw
     case rel => exact ⟨k + 1, _, by go_num, rfl, by omega, HU, HO⟩
     case measure => simp [intOf]; omega
  ·have hk2 : k = l.length := by omega
   subst hk2
   rw [List.take_length] at HO
   go_wp2
   go_ret
   exact ⟨_, rfl, HU.out, HO.out⟩
end Go.Proofs.YtcclepohmhdpbabGreatDoor
