/- THE WALKS: package lists, read alone. -/
import Derived.Test.YtcclepohmhdpbaaProg
import Derived.Test.YtcclepohmhdpbaaHeap
import Derived.WalkLawsBesides
namespace Go.Proofs.Ytcclepohmhdpbaa
set_option linter.all false
open Go.RowKit Go.Deep

set_option maxHeartbeats 400000 in
theorem isFar_any (x : Int) (w : World) :
    Calls Try.prog 38 #[.int .i64 x] w fun e w' => e = .returned (.bool (Pl.farC x)) ∧ w' = w := by
  have : Pl.farC x = (decide (32768 < x) || decide (x < -32768)) := rfl
  by_cases h1 : 32768 < x
  · go_enter Try.func38, Try.ntmps38
    go_wp2
    go_ret
    exact ⟨by simp [Pl.farC, h1], rfl⟩
  · by_cases h2 : x < -32768
    all_goals
      go_enter Try.func38, Try.ntmps38
      go_wp2
      go_ret
      exact ⟨by simp [Pl.farC, h1, h2], rfl⟩

theorem ret_bool {a b : Bool} (h : a = b) : Ending.returned (.bool a) = .returned (.bool b) := by rw [h]

set_option maxHeartbeats 1000000 in
theorem tooMany_any (v : Value) (m : Mult) (w : World) (hv : Rd3 w v m) (hb : Pl.Bd m) :
    Calls Try.prog 22 #[v] w fun e w' => e = .returned (.bool (Pl.many m)) ∧ w' = w := by
  obtain ⟨ao, cap, rfl, hm⟩ := hv
  have hlen := hb.len
  by_cases h8 : 8 < m.length
  · go_enter Try.func22, Try.ntmps22
    go_wp2
    go_ret
    exact ⟨ret_bool (by simp [Pl.many, h8]), rfl⟩
  · go_enter Try.func22, Try.ntmps22
    go_wp2
    go_loop [3, 4, 14] (fun rc pc i => ∃ k : Nat, k ≤ m.length ∧ i = .int .i64 k ∧ rc = .int .i64 (Pl.nR (m.take k) : Nat) ∧ pc = .int .i64 (Pl.nP (m.take k) : Nat) ∧ Pl.nR (m.take k) ≤ 12 ∧ Pl.nP (m.take k) ≤ 100) (fun _ _ i => m.length - (intOf i).toNat)
    case atStart => exact ⟨0, Nat.zero_le _, rfl, rfl, rfl, by simp [Pl.nR], by simp [Pl.nP]⟩
    case round =>
      obtain ⟨k, hk, rfl, rfl, rfl, h12, h100⟩ := hrel
      by_cases hlt : k < m.length
      · obtain ⟨l, hl⟩ := Pl.some_of_lt hlt
        obtain ⟨b, u, rfl, hc, ao2, cap2, rfl, hr⟩ := hm k l hl
        have hll := hb.poly l (Pl.mem_of_some hl)
        have hrr := hb.ring l (Pl.mem_of_some hl)
        have eR : Hid (Pl.nR (m.take (k + 1)) = Pl.nR (m.take k) + l.length) := Pl.nR_take hl
        have eP : Hid (Pl.nP (m.take (k + 1)) = Pl.nP (m.take k) + Pl.nPl l) := Pl.nP_take hl
        have gR := Pl.nR_le m (k + 1)
        have gP := Pl.nP_le m (k + 1)
        have HL : Hid (m[k]? = some l) := hl
        have hm' := hide hm
        clear hl hm
        generalize hrc : Pl.nR (m.take k) = rc at *
        generalize hpc : Pl.nP (m.take k) = pc at *
        have Hrc : Hid (Pl.nR (m.take k) = rc) := hrc
        have Hpc : Hid (Pl.nP (m.take k) = pc) := hpc
        clear hrc hpc
        by_cases g12 : 12 < rc + l.length
        · go_wp2
          go_ret
          exact ⟨ret_bool (by have := eR.out; simp [Pl.many]; omega), rfl⟩
        · go_wp2
          go_loop [4, 26] (fun p j => ∃ q : Nat, q ≤ l.length ∧ j = .int .i64 q ∧ p = .int .i64 (pc + Pl.nPl (l.take q) : Nat) ∧ pc + Pl.nPl (l.take q) ≤ 100) (fun _ j => l.length - (intOf j).toNat)
          case atStart => exact ⟨0, Nat.zero_le _, rfl, by simp [Pl.nPl], by simpa [Pl.nPl] using h100⟩
          case round =>
            obtain ⟨q, hq, rfl, rfl, hq100⟩ := hrel
            by_cases hlq : q < l.length
            · obtain ⟨r, hr1⟩ := Pl.some_of_lt hlq
              obtain ⟨b2, u2, rfl, hc2, ao3, cap3, rfl, hp⟩ := hr q r hr1
              have hrl := hrr r (Pl.mem_of_some hr1)
              have eQ : Hid (Pl.nPl (l.take (q + 1)) = Pl.nPl (l.take q) + r.length) := Pl.nPl_take hr1
              have gQ := Pl.nPl_le l (q + 1)
              have hr' := hide hr
              have hrr' := hide hrr
              clear hr hr1 hp hrr
              generalize hx : Pl.nPl (l.take q) = x at *
              have Hx : Hid (Pl.nPl (l.take q) = x) := hx
              clear hx
              by_cases g100 : 100 < pc + x + r.length
              · go_wp2
                go_ret
                exact ⟨ret_bool (by have := eQ.out; have := eP.out; simp [Pl.many]; omega), rfl⟩
              · go_wp2
                go_round
                case rel => exact ⟨q + 1, by omega, by go_num, by rw [eQ.out]; go_num, by rw [eQ.out]; omega⟩
                case measure => simp [intOf]; omega
            · have : q = l.length := by omega
              subst this
              go_wp2
              go_round
              case rel => exact ⟨k + 1, by omega, by go_num, by rw [eR.out]; go_num, by rw [eP.out]; simp, by rw [eR.out]; omega, by rw [eP.out]; simpa using hq100⟩
              case measure => simp [intOf]; omega
      · have : k = m.length := by omega
        subst this
        go_wp2
        go_ret
        exact ⟨ret_bool (by simp [Pl.many] at *; omega), rfl⟩

set_option maxHeartbeats 1000000 in
theorem misformed_any (v : Value) (l : Poly) (w : World) (hv : Rd2 w v l) (hb : l.length ≤ 1048576) (hb2 : ∀ r ∈ l, r.length ≤ 1048576) :
    Calls Try.prog 23 #[v] w fun e w' => e = .returned (.bool (Pl.badL l)) ∧ ∃ n, w' = w.drewN n := by
  obtain ⟨ao, cap, rfl, hm⟩ := hv
  by_cases h0 : l.length = 0
  · go_enter Try.func23, Try.ntmps23
    go_wp2
    go_ret
    exact ⟨ret_bool (by simp [Pl.badL, List.length_eq_zero_iff.1 h0]), 0, rfl⟩
  · have h0' : ((l.length : Int) == 0) = false := beq_eq_false_iff_ne.2 (by omega)
    go_enter Try.func23, Try.ntmps23
    go_wp2
    go_loopw [10] (fun i wr => ∃ k : Nat, k ≤ l.length ∧ i = .int .i64 k ∧ (l.take k).any Pl.badR = false ∧ ∃ n, wr = w.drewN n) (fun i _ => l.length - (intOf i).toNat)
    case atStart => exact ⟨0, Nat.zero_le _, rfl, rfl, 0, rfl⟩
    case round =>
      obtain ⟨k, hk, rfl, hbad, n, rfl⟩ := hrel
      by_cases hlt : k < l.length
      · obtain ⟨r, hr⟩ := Pl.some_of_lt hlt
        obtain ⟨b, u, rfl, hc, ao2, cap2, rfl, hp⟩ := hm k r hr
        have hrl := hb2 r (Pl.mem_of_some hr)
        have e1 := hide (Pl.any_take_succ Pl.badR hr)
        have HR := hide hr
        have hm' := hide hm
        have hbad' := hide hbad
        have hb2' := hide hb2
        clear hr hm hbad hb2
        by_cases h4 : r.length < 4
        · have hd : decide ((r.length : Int) < 4) = true := by simp; omega
          have hb4 : Hid (Pl.badR r = true) := by simp [Hid, Pl.badR, h4]
          go_wp2
          go_quiet (fail)
          go_wp2
          go_ret
          exact ⟨ret_bool (by simp [Pl.badL, Pl.badRs, Pl.any_true_of Pl.badR HR.out hb4.out]), _, World.drewN_drewN _ _ _⟩
        · have hd : decide ((r.length : Int) < 4) = false := by simp; omega
          obtain ⟨p0, hp0⟩ := Pl.some_of_lt (l := r) (k := 0) (by omega)
          obtain ⟨p1, hp1⟩ := Pl.some_of_lt (l := r) (k := r.length - 1) (by omega)
          have HB := hide (Pl.badR_long h4 hp0 hp1)
          obtain ⟨b2, rfl, c00, c01⟩ := hp 0 p0 hp0
          obtain ⟨b2', e2, c10, c11⟩ := hp (r.length - 1) p1 hp1
          cases e2
          clear hp hp0 hp1
          obtain ⟨x0, y0⟩ := p0
          obtain ⟨x1, y1⟩ := p1
          dsimp only at c00 c01 c10 c11
          have q0 : 0 < r.length := by omega
          have q1 : (1 : Int) ≤ (r.length : Int) := by omega
          rcases (show (x0 = x1 ∧ y0 = y1) ∨ (x0 ≠ x1) ∨ (x0 = x1 ∧ y0 ≠ y1) from by omega) with ⟨rfl, rfl⟩ | hx | ⟨rfl, hy⟩
          · go_wp2
            refine wp_region_quiet_lit (by kernel_rfl) (by kernel_rfl) ?_
            repeat (first | go_big_quiet_step (fail) | quiet_step (fail))
            refine wpQuiet_nil ?_
            intro _ hw'
            obtain ⟨nq, hw''⟩ := hw'
            subst hw''
            go_wp2
            go_roundw
            case rel => exact ⟨k + 1, by omega, by go_num, by rw [e1.out, hbad'.out, HB.out]; simp, n + nq, by simp⟩
            case measure => simp [intOf]; omega
          all_goals
            go_wp2
            refine wp_region_quiet_lit (by kernel_rfl) (by kernel_rfl) ?_
            repeat (first | go_big_quiet_step (fail) | quiet_step (fail))
            refine wpQuiet_nil ?_
            intro _ hw'
            obtain ⟨nq, hw''⟩ := hw'
            subst hw''
            go_wp2
            go_ret
            exact ⟨ret_bool (by simp [Pl.badL, Pl.badRs, Pl.any_true_of Pl.badR HR.out (by rw [HB.out]; simp [*])]), _, World.drewN_drewN _ _ _⟩
      · have : k = l.length := by omega
        subst this
        go_wp2
        go_ret
        have hne : l ≠ [] := fun e => h0 (by simp [e])
        rw [List.take_length] at hbad
        exact ⟨ret_bool (by simp [Pl.badL, Pl.badRs, hbad, hne]), _, rfl⟩

end Go.Proofs.Ytcclepohmhdpbaa
