/- THE WALKS: small, plays, Makes. -/
import Derived.Test.YtcclepohmhdpbaaGreatDoorWalkT
namespace Go.Proofs.YtcclepohmhdpbaaGreatDoor
set_option linter.all false
open Go.RowKit Go.Deep

theorem RdP.up {w w' : World} {v : Value} {P : List OpD} (h : RdP w v P) (k : Up w w') : RdP w' v P := by
  obtain ⟨ao, cap, e, h⟩ := h
  exact ⟨ao, cap, e, fun i o ho => by obtain ⟨b, off, e1, q0, q1, q2, q3, q4⟩ := h i o ho; exact ⟨b, off, e1, k.cell q0, k.cell q1, k.cell q2, k.cell q3, k.cell q4⟩⟩

def SmallPost (P : List OpD) (e : Ending) : Prop := ∃ B : Bool, e = .returned (.bool B) ∧ (B = true → P.length ≤ 1048576)

set_option maxRecDepth 100000 in
set_option maxHeartbeats 4000000 in
theorem small_any (w : World) (v : Value) (P : List OpD) (hv : RdP w v P) (hb : (P.length : Int) ≤ 9223372036854775807) :
    Calls Tryz.prog 21 #[v] w fun e w' => SmallPost P e ∧ w' = w := by
  obtain ⟨ao, cap, rfl, hr⟩ := hv
  have hr' := hide hr
  clear hr
  by_cases h20 : (1048576 : Int) < (P.length : Int)
  · go_enter Tryz.func21, Tryz.ntmps21
    go_wp2
    go_ret
    exact ⟨⟨false, rfl, fun h => by cases h⟩, rfl⟩
  · go_enter Tryz.func21, Tryz.ntmps21
    go_wp2
    go_loop [3, 4] (fun nv i => ∃ (k : Nat) (x : Int), k ≤ P.length ∧ i = .int .i64 k ∧ nv = .int .i64 x) (fun _ i => P.length - (intOf i).toNat)
    case atStart => exact ⟨0, _, Nat.zero_le _, rfl, rfl⟩
    case round =>
      obtain ⟨k, x, hk, rfl, rfl⟩ := hrel
      by_cases hlt : k < P.length
      · obtain ⟨o, ho⟩ := Pl.some_of_lt hlt
        obtain ⟨b, off, rfl, q0, q1, q2, q3, q4⟩ := hr'.out k o ho
        clear q0 q1 q2 q3 ho
        generalize o.s = s at *
        by_cases hx : 1048576 < wrap64 (x + s.size)
        · go_wp2
          go_ret
          exact ⟨⟨false, rfl, fun h => by cases h⟩, rfl⟩
        · go_wp2
          go_round
          case rel => exact ⟨k + 1, _, by omega, by go_num, rfl⟩
          case measure => simp [intOf]; omega
      · have : k = P.length := by omega
        subst this
        go_wp2
        go_ret
        exact ⟨⟨true, rfl, fun _ => by omega⟩, rfl⟩

theorem el_op : Elem Tryz.prog 22 46 (.agg #[.int .i64 0, .int .i64 0, .int .i64 0, .int .i64 0, .string ⟨#[]⟩]) 5 48 := ⟨by kernel_rfl, by kernel_rfl, rfl, by omega, by omega⟩

/-- Is the step played, as far as q of the two kinds tell? -/
def playQ (k : Int) (q : Nat) : Bool := (decide (2 ≤ k) && decide (k ≤ 5)) || (decide (1 ≤ q) && decide (k = 6)) || (decide (2 ≤ q) && decide (k = 8))
theorem playQ_two (k : Int) (h : playQ k 2 = true) : playB k = true := by
  simp [playQ] at h
  simp [playB]
  omega

theorem own_RdP {w : World} {base : Nat} {v : Value} {P : List OpD} (h : w.ownsRow base 46 5 v P.length (cellsP P)) : RdP w v P := by
  obtain ⟨ao, cap, e⟩ := own_len h
  refine ⟨ao, cap, e, fun i o ho => ?_⟩
  obtain ⟨g, cap', e', hc⟩ := own_cell h (by have := Pl.lt_of_some ho; omega)
  rw [e] at e'
  cases e'
  refine ⟨g, 0, rfl, ?_, ?_, ?_, ?_, ?_⟩
  · rw [Nat.zero_add]; exact hc _ _ (cellsP_at P i o 0 _ ho rfl)
  · rw [Nat.zero_add]; exact hc _ _ (cellsP_at P i o 1 _ ho rfl)
  · rw [Nat.zero_add]; exact hc _ _ (cellsP_at P i o 2 _ ho rfl)
  · rw [Nat.zero_add]; exact hc _ _ (cellsP_at P i o 3 _ ho rfl)
  · rw [Nat.zero_add]; exact hc _ _ (cellsP_at P i o 4 _ ho rfl)

set_option maxRecDepth 100000 in
set_option maxHeartbeats 4000000 in
theorem plays_any (w : World) (v : Value) (P : List OpD) (hv : RdP w v P) (hok : ∀ o ∈ P, OpOK o) (hb : (P.length : Int) ≤ 9223372036854775807) (kb : Nat) (hk0 : w.cell? ⟨kb, 0, none⟩ = some (.int .i64 6)) (hk1 : w.cell? ⟨kb, 1, none⟩ = some (.int .i64 8)) :
    Calls Tryz.prog 14 #[v, .slice (some ⟨kb, 0, none⟩) 2 2] w fun e w' => e = .returned (.bool true) ∧ Up w w' := by
  have hv' := hide hv
  obtain ⟨ao, cap, rfl, hr⟩ := hv
  have hr' := hide hr
  have hok' := hide hok
  have K0 := hide hk0
  have K1 := hide hk1
  clear hr hok hk0 hk1
  go_enter Tryz.func14, Tryz.ntmps14
  go_wp2_with fail
  refine (small_any w _ P hv'.out hb).mono ?_
  rintro e w1 ⟨⟨B, rfl, hB⟩, rfl⟩
  cases B
  · clear hB
    go_wp2
    go_ret
    exact ⟨rfl, Up.refl _⟩
  · have hP := hB rfl
    clear hB hb
    go_wp2
    go_loopw [6, 7] (fun lv i wr => ∃ (k : Nat) (Q : List OpD), k ≤ P.length ∧ i = .int .i64 k ∧ Up w1 wr ∧ Q.length ≤ k ∧ wr.ownsRow w1.heap.size 46 5 lv Q.length (cellsP Q) ∧ Hid (∀ o ∈ Q, OpOK o ∧ playB o.kd = true)) (fun _ i _ => P.length - (intOf i).toNat)
    case atStart => exact ⟨0, [], Nat.zero_le _, rfl, Up.refl _, Nat.le_refl _, World.ownsRow_nil _ _ _ _, by simp [Hid]⟩
    case round =>
      obtain ⟨k, Q, hk, rfl, hu, hQk, hown, hQ⟩ := hrel
      have hu' := hide hu
      have hown' := hide hown
      by_cases hlt : k < P.length
      · obtain ⟨o, ho⟩ := Pl.some_of_lt hlt
        obtain ⟨b, off, rfl, q0, q1, q2, q3, q4⟩ := hr'.out k o ho
        have p0 := hu.cell q0
        have p1 := hide (hu.cell q1)
        have p2 := hide (hu.cell q2)
        have p3 := hide (hu.cell q3)
        have p4 := hide (hu.cell q4)
        have p0' := hide p0
        have hoo := hide (hok'.out o (Pl.mem_of_some ho))
        have m0 := hide (hu.cell K0.out)
        have m1 := hide (hu.cell K1.out)
        clear hu hown q0 q1 q2 q3 q4 ho
        obtain ⟨kd, a, b2, c, s⟩ := o
        dsimp only at p0 p1 p2 p3 p4 p0'
        go_upto_region 9 with fail
        go_cut [9] (fun sl wc => sl = .bool (playQ kd 0) ∧ wc = wr)
        case first =>
          by_cases h2 : 2 ≤ kd
          · by_cases h5 : kd ≤ 5
            · have e : playQ kd 0 = true := by simp [playQ, h2, h5]
              have e' := hide e
              clear e
              go_wp2
              go_meet
              case rel => exact ⟨by rw [e'.out], rfl⟩
            · have e : playQ kd 0 = false := by simp [playQ]; omega
              have e' := hide e
              clear e
              go_wp2
              go_meet
              case rel => exact ⟨by rw [e'.out], rfl⟩
          · have e : playQ kd 0 = false := by simp [playQ]; omega
            have e' := hide e
            clear e
            go_wp2
            go_meet
            case rel => exact ⟨by rw [e'.out], rfl⟩
        case rest =>
          obtain ⟨rfl, rfl⟩ := hcut
          go_wp2
          go_loop [9, 10] (fun iv j => ∃ q : Nat, q ≤ 2 ∧ j = .int .i64 q ∧ iv = .bool (playQ kd q)) (fun _ j => 2 - (intOf j).toNat)
          case atStart => exact ⟨0, by omega, rfl, rfl⟩
          case round =>
            obtain ⟨q, hq, rfl, rfl⟩ := hrel
            rcases (show q = 0 ∨ q = 1 ∨ q = 2 by omega) with rfl | rfl | rfl
            · have hm := m0.out
              by_cases h6 : kd = 6
              · have e1 : Hid (playQ kd 1 = true) := by simp [Hid, playQ, h6]
                have e0 : Hid (playQ kd 0 = false) := by simp [Hid, playQ, h6]
                rw [e0.out]
                have h6b : (kd == 6) = true := beq_iff_eq.2 h6
                clear h6
                go_wp2
                go_round
                case rel => exact ⟨1, by omega, by go_num, by rw [e1.out]⟩
                case measure => simp [intOf]
              · have e1 : Hid (playQ kd 1 = playQ kd 0) := by simp [Hid, playQ, h6]
                have h6b : (kd == 6) = false := beq_eq_false_iff_ne.2 h6
                cases hB : playQ kd 0
                all_goals
                  have hB' := hide hB
                  clear hB
                  go_wp2
                  go_round
                  case rel => exact ⟨1, by omega, by go_num, by rw [e1.out, hB'.out]⟩
                  case measure => simp [intOf]
            · have hm := m1.out
              by_cases h8 : kd = 8
              · have e1 : Hid (playQ kd 2 = true) := by simp [Hid, playQ, h8]
                have e0 : Hid (playQ kd 1 = false) := by simp [Hid, playQ, h8]
                rw [e0.out]
                have h8b : (kd == 8) = true := beq_iff_eq.2 h8
                clear h8
                go_wp2
                go_round
                case rel => exact ⟨2, by omega, by go_num, by rw [e1.out]⟩
                case measure => simp [intOf]
              · have e1 : Hid (playQ kd 2 = playQ kd 1) := by simp [Hid, playQ, h8]
                have h8b : (kd == 8) = false := beq_eq_false_iff_ne.2 h8
                cases hB : playQ kd 1
                all_goals
                  have hB' := hide hB
                  clear hB
                  go_wp2
                  go_round
                  case rel => exact ⟨2, by omega, by go_num, by rw [e1.out, hB'.out]⟩
                  case measure => simp [intOf]
            · cases hB : playQ kd 2
              · have hB' := hide hB
                clear hB
                go_wp2
                go_roundw
                case rel => exact ⟨k + 1, Q, by omega, by go_num, hu'.out, by omega, hown'.out, hQ⟩
                case measure => simp [intOf]; omega
              · have hpl := hide (playQ_two kd hB)
                have hB' := hide hB
                clear hB
                have n0 := p0'.out
                have n1 := p1.out
                have n2 := p2.out
                have n3 := p3.out
                have n4 := p4.out
                have hOA := hide (hown'.out.alloc (.cells #[.int .i64 kd, .int .i64 a, .int .i64 b2, .int .i64 c, .string s] 46))
                have hQb : Hid (Q.length ≤ 1073741824) := by show _ ≤ _; omega
                have hsz := hide hu'.out.size
                go_wp2_with (at_builtin; refine wpList_app el_op rfl (.tmp 48) (.tmp 53) rfl w1.heap.size _ _ _ (by rfl) hOA.out wc.heap.size [.int .i64 kd, .int .i64 a, .int .i64 b2, .int .i64 c, .string s] (by rfl) rfl (heap_alloc_new wc _) (by intro u hu; simp at hu; rcases hu with rfl | rfl | rfl | rfl | rfl <;> rfl) hQb.out (by simp; have := hsz.out; omega) ?_; intro g cap w3 hown3 hg3 hat3 hlt3; replace hown3 := hide hown3; replace hg3 := hide hg3; clear hat3 hlt3)
                go_roundw
                case rel =>
                  refine ⟨k + 1, Q ++ [⟨kd, a, b2, c, s⟩], by omega, by go_num, up_grown (hu'.out.alloc _) hg3.out (fun g e => (own_lt hown'.out e).1), by simp; omega, by rw [cellsP_snoc, List.length_append]; exact hown3.out, ?_⟩
                  intro t ht
                  rcases List.mem_append.1 ht with ht | ht
                  · exact hQ.out t ht
                  · simp at ht; subst ht
                    exact ⟨hoo.out, hpl.out⟩
                case measure => simp [intOf]; omega
      · have : k = P.length := by omega
        subst this
        have hrd := hide (own_RdP hown)
        clear hu hown
        go_wp2_with fail
        refine (upTo_any wr _ Q hrd.out hQ.out (by omega)).mono ?_
        rintro e w2 ⟨rfl, hu2⟩
        replace hu2 := hide hu2
        go_wp2
        go_ret
        exact ⟨rfl, hu'.out.trans hu2.out⟩

set_option maxRecDepth 100000 in
set_option maxHeartbeats 4000000 in
theorem makes_any (w : World) (v : Value) (P : List OpD) (hv : RdP w v P) (hok : ∀ o ∈ P, OpOK o) (hb : (P.length : Int) ≤ 9223372036854775807) :
    Calls Tryz.prog 3 #[v] w fun e w' => e = .returned (.bool true) ∧ Up w w' := by
  have hrow := VRow.new w [.int .i64 6, .int .i64 8] 3
  have hp := hide (plays_any (w.alloc (.cells #[.int .i64 6, .int .i64 8] 3)) v P (hv.up ((Up.refl w).alloc _)) hok hb w.heap.size (hrow.cell rfl) (hrow.cell rfl))
  clear hrow hv hok hb
  go_enter Tryz.func3, Tryz.ntmps3
  go_wp2_with fail
  refine hp.out.mono ?_
  rintro e w1 ⟨rfl, hu⟩
  replace hu := hide hu
  go_wp2
  go_ret
  exact ⟨rfl, ((Up.refl w).alloc _).trans hu.out⟩

end Go.Proofs.YtcclepohmhdpbaaGreatDoor
