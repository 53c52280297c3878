/- THE DOCUMENT's WALKS: poly, the clause of the polygons, and of the cut. -/
import Derived.Test.YtcclepohmhdpbaaGreatDoorRfN
namespace Go.Proofs.YtcclepohmhdpbaaGreatDoor
set_option linter.all false
open Go.RowKit Go.Deep

def dqP (r : Ring) (s : Ring) : Bool := !(Vd.pointsD r s)
def dqX (r : Ring) (l : Poly) : Bool := l.any (dqP r) || !(Vd.allD r l (-1))
def dqH (m : Mult) (p : Nat) (r : Ring) (k : Nat) : Bool := decide (k ≠ p) && dqX r (Vd.pAt m k)
def dqF (m : Mult) (p : Nat) (l : Poly) (i : Nat) : Bool := Vd.anyI m.length (dqH m p (Vd.rAt l i))
theorem dqH_same (m : Mult) (p : Nat) (r : Ring) : dqH m p r p = false := by unfold dqH; simp
theorem dqH_at {m : Mult} {p k : Nat} (h : k ≠ p) {r : Ring} {l : Poly} (hl : m[k]? = some l) : dqH m p r k = dqX r l := by unfold dqH; rw [decide_eq_true h, pAt_some hl]; rfl
theorem any_more {α : Type} {f : α → Bool} {l : List α} {q : Nat} (h : (l.take q).any f = true) : l.any f = true := by
  obtain ⟨x, hx, hf⟩ := List.any_eq_true.1 h
  exact List.any_eq_true.2 ⟨x, List.mem_of_mem_take hx, hf⟩
set_option maxRecDepth 8000 in
set_option maxHeartbeats 16000000 in
theorem poly5_any (v : Value) (m : Mult) (p : Nat) (l : Poly) (w : World) (hv : Rc3 w v m) (hp : m[p]? = some l) (hz : ∀ l ∈ m, PZ l) (hm : m.length ≤ 1048576) :
    Calls Tryz.prog 91 #[v, .int .i64 p, .int .i64 5] w fun e w' => e = .returned (.bool (!(Vd.anyI l.length (dqF m p l)))) ∧ Up w w' := by
  obtain ⟨mao, mc, rfl, hM⟩ := hv
  have HMM := hide hM
  obtain ⟨mb, u, rfl, cu, ao, cap, rfl, hcap, hL⟩ := hM p l hp
  have HM := hide hL
  have HZA := hide hz
  have HZ := hide (hz l (Pl.mem_of_some hp))
  have hl := (hz l (Pl.mem_of_some hp)).len
  have hpm := Pl.lt_of_some hp
  have i1 : (0 : Int) ≤ (p : Int) := by omega
  have i2 : (p : Int) < (m.length : Int) := by omega
  clear hM hL hz hp
  go_enter Tryz.func91, Tryz.ntmps91
  go_wp2
  clear cu
  go_loopw [9] (fun i wr => ∃ k : Nat, i = .int .i64 k ∧ k ≤ l.length ∧ Hid (Up w wr) ∧ Hid (Vd.anyI k (dqF m p l) = false)) (fun i _ => l.length - (intOf i).toNat)
  case atStart => exact ⟨0, rfl, Nat.zero_le _, Up.refl _, rfl⟩
  case round =>
    obtain ⟨k, rfl, hk, HU, HA⟩ := hrel
    by_cases hlt : k < l.length
    · obtain ⟨r, hr⟩ := Pl.some_of_lt hlt
      obtain ⟨b, y, rfl, cy, hy⟩ := HM.out k r hr
      have Hy := hide hy
      have CY := hide cy
      have HCr := hide (HZ.out.cd r (Pl.mem_of_some hr))
      have HF : Hid (dqF m p l k = Vd.anyI m.length (dqH m p r)) := by unfold dqF; rw [rAt_some hr]; exact rfl
      have Hb : Hid (r.length ≤ 1048576) := by have := HZ.out.ring r (Pl.mem_of_some hr); show _ ≤ _; omega
      have i3 : (0 : Int) ≤ (k : Int) := by omega
      have i4 : (k : Int) < (l.length : Int) := by omega
      have i5 : IntKind.i64.wrap ((k : Int) + 1) = (k : Int) + 1 := wrap_id (by omega) (by omega)
      clear hr cy hy
      go_wp2
      go_loopw [10, 11] (fun ok s wr => ∃ q : Nat, s = .int .i64 q ∧ ok = .bool true ∧ q ≤ l.length ∧ Hid (Up w wr)) (fun _ s _ => l.length - (intOf s).toNat)
      case atStart => exact ⟨0, rfl, rfl, Nat.zero_le _, HU⟩
      case round =>
        clear HU
        obtain ⟨q, rfl, rfl, hq, HU⟩ := hrel
        by_cases hlq : q < l.length
        · have j1 : (q : Int) < (l.length : Int) := by omega
          by_cases hs : q = k
          · have hs' : ((q : Int) == (k : Int)) = true := beq_iff_eq.2 (by omega)
            clear hs
            go_wp2
            go_roundw
            case rel => exact ⟨q + 1, by go_num, rfl, by omega, HU⟩
            case measure => simp [intOf]; omega
          · have hs' : ((q : Int) == (k : Int)) = false := beq_eq_false_iff_ne.2 (by omega)
            go_wp2
            go_roundw
            case rel => exact ⟨q + 1, by go_num, rfl, by omega, HU⟩
            case measure => simp [intOf]; omega
        · have j1 : ¬ (q : Int) < (l.length : Int) := by omega
          go_wp2
          clear hlq j1 hq
          go_loopw [10, 12] (fun ok s wr => ∃ (q : Nat) (B : Bool), s = .int .i64 q ∧ ok = .bool B ∧ q ≤ m.length ∧ Hid (Up w wr) ∧ Hid (Vd.anyI q (dqH m p r) = !B)) (fun _ s _ => m.length - (intOf s).toNat)
          case atStart => exact ⟨0, true, rfl, rfl, Nat.zero_le _, HU, rfl⟩
          case round =>
            clear HU
            obtain ⟨q, B, rfl, rfl, hq, HU, HB⟩ := hrel
            cases B
            · have HR : Hid (Vd.anyI l.length (dqF m p l) = true) := Vd.anyI_true hlt (by rw [HF.out]; exact anyI_more HB.out hq)
              by_cases hlq : (q : Int) < (m.length : Int)
              all_goals
                go_wp2
                go_ret
                exact ⟨ret_b (by rw [HR.out]; rfl), HU.out⟩
            · by_cases hlq : q < m.length
              · have j1 : (q : Int) < (m.length : Int) := by omega
                have j0 : (0 : Int) ≤ (q : Int) := by omega
                by_cases hs : q = p
                · have hs' : ((q : Int) == (p : Int)) = true := beq_iff_eq.2 (by omega)
                  have HBn : Hid (Vd.anyI (q + 1) (dqH m p r) = !true) := anyI_step HB.out (by rw [hs]; exact dqH_same m p r)
                  clear hs
                  go_wp2
                  go_roundw
                  case rel => exact ⟨q + 1, true, by go_num, rfl, by omega, HU, HBn⟩
                  case measure => simp [intOf]; omega
                · have hs' : ((q : Int) == (p : Int)) = false := beq_eq_false_iff_ne.2 (by omega)
                  obtain ⟨l2, hl2⟩ := Pl.some_of_lt hlq
                  obtain ⟨mb', u2, e', cu2, hR2⟩ := HMM.out q l2 hl2
                  cases e'
                  have HR2 := hide hR2
                  obtain ⟨ao2, cap2, rfl, -, hL2⟩ := hR2
                  have CU2 := hide cu2
                  have HM2 := hide hL2
                  have HZ2 := hide (HZA.out l2 (Pl.mem_of_some hl2))
                  have hll := HZ2.out.len
                  have HG := hide (dqH_at (r := r) hs hl2)
                  have j2 : IntKind.i64.wrap ((q : Int) + 1) = (q : Int) + 1 := wrap_id (by omega) (by omega)
                  clear hs hl2 cu2 hL2
                  go_wp2
                  go_loopw [10, 13] (fun ok s wr => ∃ (t : Nat) (B : Bool), s = .int .i64 t ∧ ok = .bool B ∧ t ≤ l2.length ∧ Hid (Up w wr) ∧ Hid ((l2.take t).any (dqP r) = !B)) (fun _ s _ => l2.length - (intOf s).toNat)
                  case atStart => exact ⟨0, true, rfl, rfl, Nat.zero_le _, HU, rfl⟩
                  case round =>
                    clear HU
                    obtain ⟨t, B, rfl, rfl, ht, HU, HT⟩ := hrel
                    have k2 := HU.out.cell CU2.out
                    cases B
                    · have HBn : Hid (Vd.anyI (q + 1) (dqH m p r) = !false) := by
                        rw [Vd.anyI_succ, HB.out, HG.out]; unfold dqX; rw [any_more HT.out]; exact rfl
                      by_cases hlq : (t : Int) < (l2.length : Int)
                      all_goals
                        go_wp2
                        go_roundw
                        case rel => exact ⟨q + 1, false, by go_num, rfl, by omega, HU, HBn⟩
                        case measure => simp [intOf]; omega
                    · by_cases hlq : t < l2.length
                      · have n1 : (t : Int) < (l2.length : Int) := by omega
                        have n0 : (0 : Int) ≤ (t : Int) := by omega
                        obtain ⟨o, ho⟩ := Pl.some_of_lt hlq
                        obtain ⟨b2, z, rfl, cz, hz⟩ := HM2.out t o ho
                        have Hb2 : Hid (o.length ≤ 1048576) := by have := HZ2.out.ring o (Pl.mem_of_some ho); show _ ≤ _; omega
                        have HX := hide (Pl.any_take_succ (dqP r) ho)
                        have HP : Hid (dqP r o = !(Vd.pointsD r o)) := rfl
                        have HK : Hid (∀ g : Gr wr, Calls Tryz.prog 129 #[y, z] g.v fun e w' => e = .returned (.bool (Vd.pointsD r o)) ∧ Up g.v w') := fun g =>
                          pointsD_any y z r o _ ((Hy.out.up HU.out).up g.up) ((hz.up HU.out).up g.up) Hb.out Hb2.out HCr.out (HZ2.out.cd o (Pl.mem_of_some ho))
                        have c1 := cell_gr (HU.out.cell CY.out)
                        have c2 := cell_gr (HU.out.cell cz)
                        have c3 := cell_gr k2
                        generalize Vd.pointsD r o = X at *
                        clear ho cz hz
                        go_wp2_with fail
                        refine wp_region_up (by kernel_rfl) (by kernel_rfl) ?_
                        repeat (first | go_big_quiet_step ((go_at_call 129; exact Calls.up_of (HK.out _))))
                        refine wpQuiet_nil ?_
                        rintro w3 ⟨⟨_, u3⟩, rfl⟩
                        have HU3 := hide (HU.out.trans u3)
                        have HBn : Hid ((l2.take (t + 1)).any (dqP r) = !X) := by rw [HX.out, HT.out, HP.out]; exact rfl
                        clear u3 c1 c2 c3 HK k2
                        go_wp2
                        go_roundw
                        case rel => exact ⟨t + 1, X, by go_num, rfl, by omega, HU3, HBn⟩
                        case measure => simp [intOf]; omega
                      · have n1 : ¬ (t : Int) < (l2.length : Int) := by omega
                        have ht2 : t = l2.length := by omega
                        have HTa : Hid (l2.any (dqP r) = false) := by have := HT.out; rw [ht2, List.take_length] at this; exact this
                        have HK : Hid (∀ g : Gr wr, Calls Tryz.prog 130 #[y, .slice ao2 l2.length cap2, .int .i64 (-1)] g.v fun e w' => e = .returned (.bool (Vd.allD r l2 (-1))) ∧ Up g.v w') := fun g => by
                          have rr := ((HR2.out.up HU.out).up g.up).rd.o
                          have zz := HZ2.out
                          cases l2 with
                          | nil => exact absurd rfl zz.ne
                          | cons r0 t0 => exact all_any _ _ r r0 t0 (-1) _ ((Hy.out.up HU.out).up g.up) rr Hb.out (by have := zz.len; simp at this; omega) (fun x hx => by have := zz.ring x hx; omega) (by have := zz.flat; omega) HCr.out zz.cd
                        have HGx : Hid (dqX r l2 = !(Vd.allD r l2 (-1))) := by unfold dqX; rw [HTa.out]; exact rfl
                        have c1 := cell_gr (HU.out.cell CY.out)
                        have c3 := cell_gr k2
                        generalize Vd.allD r l2 (-1) = X at *
                        clear ht2 HT HTa
                        go_wp2_with fail
                        refine wp_region_up (by kernel_rfl) (by kernel_rfl) ?_
                        repeat (first | go_big_quiet_step ((go_at_call 130; exact Calls.up_of (HK.out _))))
                        refine wpQuiet_nil ?_
                        rintro w3 ⟨⟨_, u3⟩, rfl⟩
                        have HU3 := hide (HU.out.trans u3)
                        have HBn : Hid (Vd.anyI (q + 1) (dqH m p r) = !X) := by rw [Vd.anyI_succ, HB.out, HG.out, HGx.out]; exact rfl
                        clear u3 c1 c3 HK k2
                        go_wp2
                        go_roundw
                        case rel => exact ⟨q + 1, X, by go_num, rfl, by omega, HU3, HBn⟩
                        case measure => simp [intOf]; omega
              · have j1 : ¬ (q : Int) < (m.length : Int) := by omega
                have hq2 : q = m.length := by omega
                have HA2 : Hid (Vd.anyI (k + 1) (dqF m p l) = false) := anyI_step HA.out (by rw [HF.out, ← hq2]; exact HB.out)
                clear hq2
                go_wp2
                go_roundw
                case rel => exact ⟨k + 1, by go_num, by omega, HU, HA2⟩
                case measure => simp [intOf]; omega
    · have hk2 : k = l.length := by omega
      subst hk2
      go_wp2
      go_ret
      exact ⟨ret_b (by rw [HA.out]; rfl), HU.out⟩

/-- Is a polygon in one piece? -/
noncomputable def partD (l : Poly) : Bool := @decide (Vd.docCore l) (Classical.propDecidable _)
theorem partD_iff (l : Poly) : partD l = true ↔ Vd.docCore l := @decide_eq_true_iff _ (Classical.propDecidable _)
set_option maxRecDepth 8000 in
set_option maxHeartbeats 4000000 in
theorem poly4_any (v : Value) (m : Mult) (p : Nat) (l : Poly) (w : World) (hv : Rc3 w v m) (hp : m[p]? = some l) (hz : PZ l) (hm : m.length ≤ 1048576) :
    Calls Tryz.prog 91 #[v, .int .i64 p, .int .i64 4] w fun e w' => e = .returned (.bool (!(partD l))) ∧ Up w w' := by
  obtain ⟨mao, mc, rfl, hM⟩ := hv
  obtain ⟨mb, u, rfl, cu, hR⟩ := hM p l hp
  have HR := hide hR.rd
  obtain ⟨ao, cap, rfl, hcap, hL⟩ := hR
  have HZ := hide hz
  have hpm := Pl.lt_of_some hp
  have i1 : (0 : Int) ≤ (p : Int) := by omega
  have i2 : (p : Int) < (m.length : Int) := by omega
  clear hM hL hz hp
  go_enter Tryz.func91, Tryz.ntmps91
  go_wp2_with fail
  refine (cut_any _ l _ HR.out HZ.out.len (fun x hx => by have := HZ.out.ring x hx; omega) (by have := HZ.out.flat; omega) HZ.out.cd HZ.out.shut).mono ?_
  rintro e w2 ⟨B, rfl, hB, hz2⟩
  have HB : Hid (B = partD l) := by
    have := hB.trans (partD_iff l).symm
    exact Vd.bool_iff this
  have HU := hide hz2
  clear hB hz2
  go_wp2
  go_ret
  exact ⟨ret_b (by rw [HB.out]), HU.out⟩
end Go.Proofs.YtcclepohmhdpbaaGreatDoor
