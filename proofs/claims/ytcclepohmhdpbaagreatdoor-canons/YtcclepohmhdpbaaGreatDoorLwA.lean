/- THE SCRIPTS' LAWS: a script of any kinds of steps. -/
import Derived.Test.YtcclepohmhdpbaaGreatDoorWalkU
namespace Go.Proofs.YtcclepohmhdpbaaGreatDoor
set_option linter.all false
open Go.RowKit Go.Deep

/-- A step of a kind goes well. -/
def StepOK (kd : Int) : Prop := ∀ (w0 w : World) (Wb : Nat) (psv outv : Value) (mk : Int) (S : List SG) (O : List OG) (L : L3) (n : Nat), Inv w0 w Wb psv outv mk S O L n → n ≤ 1048576 → ∀ (a b c : Int) (s : ByteArray), OpOK ⟨kd, a, b, c, s⟩ →
    Calls Tryz.prog 43 #[.pointer (some ⟨Wb, 0, none⟩), .agg #[.int .i64 kd, .int .i64 a, .int .i64 b, .int .i64 c, .string s]] w fun e w' => e = .returned (.bool true) ∧ ∃ psv' outv' mk' S' O' L', Inv w0 w' Wb psv' outv' mk' S' O' L' (n + 1)
theorem ok_playB {kd : Int} (h : playB kd = true) : StepOK kd := fun w0 w Wb psv outv mk S O L n hI hn a b c s ho => step_any w Wb psv outv mk S O L n hI hn ⟨kd, a, b, c, s⟩ ho h
theorem ok_owner {kd : Int} (h : 2 ≤ kd ∧ kd ≤ 5) : StepOK kd := ok_playB (by simp [playB]; omega)
theorem ok_make : StepOK 6 := ok_playB rfl
theorem ok_points : StepOK 8 := ok_playB rfl

set_option maxRecDepth 100000 in
set_option maxHeartbeats 4000000 in
theorem upTo_gen (w : World) (v : Value) (P : List OpD) (hv : RdP w v P) (hP : ∀ o ∈ P, OpOK o ∧ StepOK o.kd) (hb : P.length ≤ 1048576) :
    Calls Tryz.prog 22 #[v] w fun e w' => e = .returned (.int .i64 (-1)) ∧ Up w w' := by
  obtain ⟨ao, cap, rfl, hr⟩ := hv
  have hr' := hide hr
  have hP' := hide hP
  have hst := hide (Inv.start w)
  clear hr hP
  go_enter Tryz.func22, Tryz.ntmps22
  go_wp2
  go_loopw [4] (fun i wr => ∃ (k : Nat) (psv outv : Value) (mk : Int) (S : List SG) (O : List OG) (L : L3), k ≤ P.length ∧ i = .int .i64 k ∧ Inv w wr w.heap.size psv outv mk S O L k) (fun i _ => P.length - (intOf i).toNat)
  case atStart => exact ⟨0, _, _, _, _, _, _, Nat.zero_le _, rfl, hst.out⟩
  case round =>
    obtain ⟨k, psv, outv, mk, S, O, L, hk, rfl, hI⟩ := hrel
    by_cases hlt : k < P.length
    · obtain ⟨o, ho⟩ := Pl.some_of_lt hlt
      obtain ⟨b, off, rfl, q0, q1, q2, q3, q4⟩ := hr'.out k o ho
      have p0 := hI.base.cell q0
      have p1 := hI.base.cell q1
      have p2 := hI.base.cell q2
      have p3 := hI.base.cell q3
      have p4 := hI.base.cell q4
      have hI' := hide hI
      have hok := hide (hP'.out o (Pl.mem_of_some ho))
      have hstep := hide (hok.out.2 w wr w.heap.size psv outv mk S O L k hI (by omega) o.a o.b o.c o.s hok.out.1)
      clear hI ho q0 q1 q2 q3 q4
      go_wp2_with fail
      refine hstep.out.mono ?_
      rintro e w1 ⟨rfl, psv', outv', mk', S', O', L', hI1⟩
      have hI1' := hide hI1
      have hOb : Hid (O'.length ≤ 1073741824) := by have := hI1.bO; show _ ≤ _; omega
      clear hI1 p0 p1 p2 p3 p4
      go_wp2_with fail
      refine (wstands_any _ w1 w.heap.size psv' L'.v outv' mk' O' hI1'.out.wrow hI1'.out.oout hI1'.out.outs hOb.out).mono ?_
      rintro e w2 ⟨rfl, hd2⟩
      replace hd2 := hide hd2
      go_wp2
      go_roundw
      case rel => exact ⟨k + 1, _, _, _, _, _, _, by omega, by go_num, hI1'.out.up hd2.out.up⟩
      case measure => simp [intOf]; omega
    · have : k = P.length := by omega
      subst this
      have hb := hide hI.base
      clear hI
      go_wp2
      go_ret
      exact ⟨rfl, hb.out⟩

/-- Is the step played, as far as q of the kinds tell? -/
def playK (ks : List Int) (k : Int) (q : Nat) : Bool := (decide (2 ≤ k) && decide (k ≤ 5)) || (ks.take q).any fun x => decide (k = x)
theorem playK_ok {ks : List Int} (hks : ∀ x ∈ ks, StepOK x) {k : Int} {q : Nat} (h : playK ks k q = true) : StepOK k := by
  unfold playK at h
  rw [Bool.or_eq_true] at h
  rcases h with h | h
  · simp only [Bool.and_eq_true, decide_eq_true_eq] at h; exact ok_owner h
  · obtain ⟨x, hx, e⟩ := List.any_eq_true.1 h
    rw [of_decide_eq_true e]
    exact hks x (List.mem_of_mem_take hx)
theorem playK_succ {ks : List Int} {k x : Int} {q : Nat} (h : ks[q]? = some x) : playK ks k (q + 1) = (playK ks k q || decide (k = x)) := by
  unfold playK
  rw [Pl.any_take_succ _ h, Bool.or_assoc]

set_option maxRecDepth 100000 in
set_option maxHeartbeats 4000000 in
theorem plays_gen (w : World) (v : Value) (P : List OpD) (hv : RdP w v P) (hok : ∀ o ∈ P, OpOK o) (hb : (P.length : Int) ≤ 9223372036854775807) (ks : List Int) (hks : ∀ x ∈ ks, StepOK x) (hkl : ks.length ≤ 100) (kb : Nat) (hkc : ∀ (q : Nat) (x : Int), ks[q]? = some x → w.cell? ⟨kb, q, none⟩ = some (.int .i64 x)) :
    Calls Tryz.prog 14 #[v, .slice (some ⟨kb, 0, none⟩) ks.length ks.length] w fun e w' => e = .returned (.bool true) ∧ Up w w' := by
  have hv' := hide hv
  obtain ⟨ao, cap, rfl, hr⟩ := hv
  have hr' := hide hr
  have hok' := hide hok
  have KC := hide hkc
  have KS := hide hks
  clear hr hok hkc hks
  go_enter Tryz.func14, Tryz.ntmps14
  go_wp2_with fail
  refine (small_any w _ P hv'.out hb).mono ?_
  rintro e w1 ⟨⟨B, rfl, hB⟩, rfl⟩
  cases B
  · clear hB
    go_wp2
    go_ret
    exact ⟨rfl, Up.refl _⟩
  · have hP := hB rfl
    clear hB hb
    go_wp2
    go_loopw [6, 7] (fun lv i wr => ∃ (k : Nat) (Q : List OpD), k ≤ P.length ∧ i = .int .i64 k ∧ Up w1 wr ∧ Q.length ≤ k ∧ wr.ownsRow w1.heap.size 46 5 lv Q.length (cellsP Q) ∧ Hid (∀ o ∈ Q, OpOK o ∧ StepOK o.kd)) (fun _ i _ => P.length - (intOf i).toNat)
    case atStart => exact ⟨0, [], Nat.zero_le _, rfl, Up.refl _, Nat.le_refl _, World.ownsRow_nil _ _ _ _, by simp [Hid]⟩
    case round =>
      obtain ⟨k, Q, hk, rfl, hu, hQk, hown, hQ⟩ := hrel
      have hu' := hide hu
      have hown' := hide hown
      by_cases hlt : k < P.length
      · obtain ⟨o, ho⟩ := Pl.some_of_lt hlt
        obtain ⟨b, off, rfl, q0, q1, q2, q3, q4⟩ := hr'.out k o ho
        have p0 := hu.cell q0
        have p1 := hide (hu.cell q1)
        have p2 := hide (hu.cell q2)
        have p3 := hide (hu.cell q3)
        have p4 := hide (hu.cell q4)
        have p0' := hide p0
        have hoo := hide (hok'.out o (Pl.mem_of_some ho))
        clear hu hown q0 q1 q2 q3 q4 ho
        obtain ⟨kd, a, b2, c, s⟩ := o
        dsimp only at p0 p1 p2 p3 p4 p0'
        go_upto_region 9 with fail
        go_cut [9] (fun sl wc => sl = .bool (playK ks kd 0) ∧ wc = wr)
        case first =>
          have e0 : playK ks kd 0 = (decide (2 ≤ kd) && decide (kd ≤ 5)) := by simp [playK]
          by_cases h2 : 2 ≤ kd
          · by_cases h5 : kd ≤ 5
            · have e : playK ks kd 0 = true := by simp [e0, h2, h5]
              have e' := hide e
              clear e e0
              go_wp2
              go_meet
              case rel => exact ⟨by rw [e'.out], rfl⟩
            · have e : playK ks kd 0 = false := by simp [e0, h5]
              have e' := hide e
              clear e e0
              go_wp2
              go_meet
              case rel => exact ⟨by rw [e'.out], rfl⟩
          · have e : playK ks kd 0 = false := by simp [e0, h2]
            have e' := hide e
            clear e e0
            go_wp2
            go_meet
            case rel => exact ⟨by rw [e'.out], rfl⟩
        case rest =>
          obtain ⟨rfl, rfl⟩ := hcut
          go_wp2
          go_loop [9, 10] (fun iv j => ∃ q : Nat, q ≤ ks.length ∧ j = .int .i64 q ∧ iv = .bool (playK ks kd q)) (fun _ j => ks.length - (intOf j).toNat)
          case atStart => exact ⟨0, Nat.zero_le _, rfl, rfl⟩
          case round =>
            obtain ⟨q, hq, rfl, rfl⟩ := hrel
            by_cases hlq : q < ks.length
            · obtain ⟨x, hx⟩ := Pl.some_of_lt hlq
              have hm := hu'.out.cell (KC.out q x hx)
              have HS := hide (playK_succ (k := kd) hx)
              have j1 : (q : Int) < (ks.length : Int) := by omega
              have j0 : (0 : Int) ≤ (q : Int) := by omega
              clear hx
              cases hB : playK ks kd q
              · rw [hB] at HS
                clear hB
                by_cases h6 : kd = x
                · have e1 : Hid (playK ks kd (q + 1) = true) := by rw [HS.out, decide_eq_true h6]; exact rfl
                  subst h6
                  go_wp2
                  go_round
                  case rel => exact ⟨q + 1, by omega, by go_num, by rw [e1.out]⟩
                  case measure => simp [intOf]; omega
                · have e1 : Hid (playK ks kd (q + 1) = false) := by rw [HS.out, decide_eq_false h6]; exact rfl
                  have h6b : (kd == x) = false := beq_eq_false_iff_ne.2 h6
                  go_wp2
                  go_round
                  case rel => exact ⟨q + 1, by omega, by go_num, by rw [e1.out]⟩
                  case measure => simp [intOf]; omega
              · rw [hB] at HS
                have e1 : Hid (playK ks kd (q + 1) = true) := by rw [HS.out]; exact rfl
                clear hB
                go_wp2
                go_round
                case rel => exact ⟨q + 1, by omega, by go_num, by rw [e1.out]⟩
                case measure => simp [intOf]; omega
            · have j1 : ¬ (q : Int) < (ks.length : Int) := by omega
              cases hB : playK ks kd q
              · clear hB
                go_wp2
                go_roundw
                case rel => exact ⟨k + 1, Q, by omega, by go_num, hu'.out, by omega, hown'.out, hQ⟩
                case measure => simp [intOf]; omega
              · have hpl := hide (playK_ok KS.out hB)
                clear hB
                have n0 := p0'.out
                have n1 := p1.out
                have n2 := p2.out
                have n3 := p3.out
                have n4 := p4.out
                have hOA := hide (hown'.out.alloc (.cells #[.int .i64 kd, .int .i64 a, .int .i64 b2, .int .i64 c, .string s] 46))
                have hQb : Hid (Q.length ≤ 1073741824) := by show _ ≤ _; omega
                have hsz := hide hu'.out.size
                go_wp2_with (at_builtin; refine wpList_app el_op rfl (.tmp 48) (.tmp 53) rfl w1.heap.size _ _ _ (by rfl) hOA.out wc.heap.size [.int .i64 kd, .int .i64 a, .int .i64 b2, .int .i64 c, .string s] (by rfl) rfl (heap_alloc_new wc _) (by intro u hu; simp at hu; rcases hu with rfl | rfl | rfl | rfl | rfl <;> rfl) hQb.out (by simp; have := hsz.out; omega) ?_; intro g cap w3 hown3 hg3 hat3 hlt3; replace hown3 := hide hown3; replace hg3 := hide hg3; clear hat3 hlt3)
                go_roundw
                case rel =>
                  refine ⟨k + 1, Q ++ [⟨kd, a, b2, c, s⟩], by omega, by go_num, up_grown (hu'.out.alloc _) hg3.out (fun g e => (own_lt hown'.out e).1), by simp; omega, by rw [cellsP_snoc, List.length_append]; exact hown3.out, ?_⟩
                  intro t ht
                  rcases List.mem_append.1 ht with ht | ht
                  · exact hQ.out t ht
                  · simp at ht; subst ht
                    exact ⟨hoo.out, hpl.out⟩
                case measure => simp [intOf]; omega
      · have : k = P.length := by omega
        subst this
        have hrd := hide (own_RdP hown)
        clear hu hown
        go_wp2_with fail
        refine (upTo_gen wr _ Q hrd.out hQ.out (by omega)).mono ?_
        rintro e w2 ⟨rfl, hu2⟩
        replace hu2 := hide hu2
        go_wp2
        go_ret
        exact ⟨rfl, hu'.out.trans hu2.out⟩
end Go.Proofs.YtcclepohmhdpbaaGreatDoor
