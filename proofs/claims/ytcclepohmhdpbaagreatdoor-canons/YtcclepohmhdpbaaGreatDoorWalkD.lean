/- THE WALKS: the document's side: far, Wrong, far, Wrong. -/
import Derived.Test.YtcclepohmhdpbaaGreatDoorWalkC
import Derived.Deep.DeepCutAuto
namespace Go.Proofs.YtcclepohmhdpbaaGreatDoor
set_option linter.all false
open Go.RowKit Go.Deep

set_option maxHeartbeats 400000 in
theorem far_any (x : Int) (w : World) :
    Calls Tryz.prog 53 #[.int .i64 x] w fun e w' => e = .returned (.bool (Pl.farC x)) ∧ w' = w := by
  by_cases h1 : 32768 < x
  · go_enter Tryz.func53, Tryz.ntmps53
    go_wp2
    go_ret
    exact ⟨by simp [Pl.farC, h1], rfl⟩
  · by_cases h2 : x < -32768
    · by_cases h3 : 32768 < wrap64 (-x)
      all_goals
        go_enter Tryz.func53, Tryz.ntmps53
        go_wp2
        go_ret
        exact ⟨by simp [Pl.farC, h2], rfl⟩
    · have h3 : -x ≤ 32768 := by omega
      have h4 : -32768 ≤ -x := by omega
      go_enter Tryz.func53, Tryz.ntmps53
      go_wp2
      go_ret
      have h5 : decide (32768 < -x) = false := decide_eq_false (by omega)
      have h6 : Pl.farC x = false := by simp [Pl.farC]; omega
      exact ⟨ret_bool (by rw [h5, h6]), rfl⟩

theorem wrong_of (m : Mult) : Pl.wrong m = if Pl.many m = true then 6 else if m.any Pl.badL = true then 5 else if m.any Pl.wideL = true then 4 else 0 := rfl

theorem or_step {B X Y Z Z' c : Bool} (h : B = (X || Y || Z)) (e : Z' = (Z || c)) : ∀ t : Bool, t = (B || c) → t = (X || Y || Z') := by
  intro t ht; rw [ht, h, e]; simp only [Bool.or_assoc]
theorem or_step1 {B X Z Z' c : Bool} (h : B = (X || Z)) (e : Z' = (Z || c)) : ∀ t : Bool, t = (B || c) → t = (X || Z') := by
  intro t ht; rw [ht, h, e]; simp only [Bool.or_assoc]

set_option maxRecDepth 100000 in
set_option maxHeartbeats 4000000 in
theorem wrong_any (v : Value) (m : Mult) (w : World) (hv : Rd3 w v m) (hb : Pl.Bd m) :
    Calls Tryz.prog 28 #[v] w fun e w' => e = .returned (.int .i64 (Pl.wrong m)) ∧ ∃ n, w' = w.drewN n := by
  obtain ⟨ao, cap, rfl, hm⟩ := hv
  have hlen := hb.len
  have hb' := hide hb
  clear hb
  go_enter Tryz.func28, Tryz.ntmps28
  go_wp2
  go_loopw [3, 4, 5, 6, 7] (fun rc pc bd wd i wr => ∃ (k rcn pcn : Nat) (B W : Bool), k ≤ m.length ∧ i = .int .i64 k ∧ rc = .int .i64 rcn ∧ pc = .int .i64 pcn ∧ bd = .bool B ∧ wd = .bool W ∧ Hid (rcn = Pl.nR (m.take k)) ∧ Hid (pcn = Pl.nP (m.take k)) ∧ Hid (B = (m.take k).any Pl.badL) ∧ Hid (W = (m.take k).any Pl.wideL) ∧ ∃ n, wr = w.drewN n) (fun _ _ _ _ i _ => m.length - (intOf i).toNat)
  case atStart => exact ⟨0, 0, 0, false, false, Nat.zero_le _, rfl, rfl, rfl, rfl, rfl, rfl, rfl, rfl, rfl, 0, rfl⟩
  case round =>
    obtain ⟨k, rc, pc, B, W, hk, rfl, rfl, rfl, rfl, rfl, Hrc, Hpc, HB, HW, n, rfl⟩ := hrel
    have bR : rc ≤ k * 1048576 := by have := Pl.nR_bd hb'.out k; rw [← Hrc.out] at this; exact this
    have bP : pc ≤ k * 1099511627776 := by have := Pl.nP_bd hb'.out k; rw [← Hpc.out] at this; exact this
    by_cases hlt : k < m.length
    · obtain ⟨l, hl⟩ := Pl.some_of_lt hlt
      obtain ⟨b, u, rfl, hc, ao2, cap2, rfl, hr⟩ := hm k l hl
      have hll := hb'.out.poly l (Pl.mem_of_some hl)
      have hrr := hide (hb'.out.ring l (Pl.mem_of_some hl))
      have eR := hide (Pl.nR_take hl)
      have eP := hide (Pl.nP_take hl)
      have eB := hide (Pl.any_take_succ Pl.badL hl)
      have eW := hide (Pl.any_take_succ Pl.wideL hl)
      have bPl := hide (fun q => Pl.nPl_bd hb'.out (Pl.mem_of_some hl) q)
      have hm' := hide hm
      have hr' := hide hr
      clear hl hm hr
      have hcases : (B = true) ∨ (B = false ∧ ((l.length : Int) == 0) = true) ∨ (B = false ∧ ((l.length : Int) == 0) = false) := by
        cases B
        · cases h : ((l.length : Int) == 0) <;> simp
        · exact .inl rfl
      have HE : Hid (∀ t : Bool, (t = true ∧ B = true) ∨ (t = ((l.length : Int) == 0) ∧ B = false) → t = (((m.take k).any Pl.badL || l.isEmpty) || (l.take 0).any Pl.badR)) := by
        intro t ht
        rw [← HB.out]
        rcases ht with ⟨rfl, rfl⟩ | ⟨rfl, rfl⟩
        · rfl
        · cases l with
          | nil => rfl
          | cons a l => simp; omega
      clear HB
      go_upto_region 8 with fail
      go_cut [5] (fun s wc => ∃ B1 : Bool, s = .bool B1 ∧ Hid (B1 = (((m.take k).any Pl.badL || l.isEmpty) || (l.take 0).any Pl.badR)) ∧ wc = w.drewN n)
      case first =>
        rcases hcases with rfl | ⟨rfl, h0⟩ | ⟨rfl, h0⟩
        all_goals
          go_wp2
          go_meet
          case rel => exact ⟨_, rfl, HE.out _ (by simp [*]), rfl⟩
      case rest =>
        obtain ⟨B1, rfl, HB1, rfl⟩ := hcut
        clear hcases HE
        go_wp2
        go_loopw [3, 4, 5, 6, 8] (fun rc' pc' bd wd j wr => ∃ (q p' : Nat) (B' W' : Bool), q ≤ l.length ∧ j = .int .i64 q ∧ rc' = .int .i64 (rc + q : Nat) ∧ pc' = .int .i64 (pc + p' : Nat) ∧ bd = .bool B' ∧ wd = .bool W' ∧ Hid (p' = Pl.nPl (l.take q)) ∧ Hid (B' = (((m.take k).any Pl.badL || l.isEmpty) || (l.take q).any Pl.badR)) ∧ Hid (W' = (W || (l.take q).any Pl.wideR)) ∧ ∃ n, wr = w.drewN n) (fun _ _ _ _ j _ => l.length - (intOf j).toNat)
        case atStart => exact ⟨0, 0, B1, W, Nat.zero_le _, rfl, by simp, by simp, rfl, rfl, rfl, HB1, by simp [Hid], n, rfl⟩
        case round =>
          obtain ⟨q, p', B', W', hq, rfl, rfl, rfl, rfl, rfl, Hp, HB', HW', n', rfl⟩ := hrel
          have bp' : p' ≤ q * 1048576 := by have := bPl.out q; rw [← Hp.out] at this; exact this
          by_cases hlq : q < l.length
          · obtain ⟨r, hr1⟩ := Pl.some_of_lt hlq
            obtain ⟨b2, u2, rfl, hc2, ao3, cap3, rfl, hp⟩ := hr'.out q r hr1
            have hrl := hrr.out r (Pl.mem_of_some hr1)
            have eQ := hide (Pl.nPl_take hr1)
            have HN := hide (or_step HB'.out (Pl.any_take_succ Pl.badR hr1))
            have HV := hide (or_step1 HW'.out (Pl.any_take_succ Pl.wideR hr1))
            have hp' := hide hp
            clear hr1 hp HB' HW' hr'
            have hcs : (B' = true) ∨ (B' = false ∧ decide ((r.length : Int) < 4) = true ∧ Pl.badR r = true) ∨ (B' = false ∧ ∃ x0 y0 x1 y1, r[0]? = some (x0, y0) ∧ r[r.length - 1]? = some (x1, y1) ∧ 4 ≤ r.length ∧ decide ((r.length : Int) < 4) = false ∧ Pl.badR r = !(decide ((x0, y0) = (x1, y1)))) := by
              cases B'
              · by_cases h4 : r.length < 4
                · exact .inr (.inl ⟨rfl, by simp; omega, by simp [Pl.badR, h4]⟩)
                · obtain ⟨⟨x0, y0⟩, hp0⟩ := Pl.some_of_lt (l := r) (k := 0) (by omega)
                  obtain ⟨⟨x1, y1⟩, hp1⟩ := Pl.some_of_lt (l := r) (k := r.length - 1) (by omega)
                  exact .inr (.inr ⟨rfl, x0, y0, x1, y1, hp0, hp1, by omega, by simp; omega, Pl.badR_long h4 hp0 hp1⟩)
              · exact .inl rfl
            have hcs' := hide hcs
            clear hcs
            go_upto_region 14 with fail
            go_cut [5] (fun s wc => ∃ B2 : Bool, s = .bool B2 ∧ Hid (B2 = (B' || Pl.badR r)) ∧ ∃ n, wc = w.drewN n)
            case first =>
              rcases hcs'.out with rfl | ⟨rfl, h4, hbr⟩ | ⟨rfl, x0, y0, x1, y1, hp0, hp1, h4l, h4, hbr⟩
              · refine wp_region_quiet_lit (by kernel_rfl) (by kernel_rfl) ?_
                repeat (first | go_big_quiet_step (fail) | quiet_step (fail))
                refine wpQuiet_nil ?_
                intro _ hw'
                obtain ⟨nq, hw''⟩ := hw'
                subst hw''
                go_wp2
                go_meet
                case rel => exact ⟨_, rfl, by simp [Hid], _, rfl⟩
              · have hbr' := hide hbr
                clear hbr
                refine wp_region_quiet_lit (by kernel_rfl) (by kernel_rfl) ?_
                repeat (first | go_big_quiet_step (fail) | quiet_step (fail))
                refine wpQuiet_nil ?_
                intro _ hw'
                obtain ⟨nq, hw''⟩ := hw'
                subst hw''
                go_wp2
                go_meet
                case rel => exact ⟨_, rfl, by rw [hbr'.out]; rfl, _, rfl⟩
              · have hbr' := hide hbr
                obtain ⟨b3, rfl, c00, c01⟩ := hp'.out 0 _ hp0
                obtain ⟨b3', e3, c10, c11⟩ := hp'.out (r.length - 1) _ hp1
                cases e3
                dsimp only at c00 c01 c10 c11
                have q0 : 0 < r.length := by omega
                have q1 : (1 : Int) ≤ (r.length : Int) := by omega
                clear hbr hp0 hp1 hp' hcs'
                rcases (show (x0 = x1 ∧ y0 = y1) ∨ (x0 ≠ x1) ∨ (x0 = x1 ∧ y0 ≠ y1) from by omega) with ⟨rfl, rfl⟩ | hx | ⟨rfl, hy⟩
                all_goals
                  refine wp_region_quiet_lit (by kernel_rfl) (by kernel_rfl) ?_
                  repeat (first | go_big_quiet_step (fail) | quiet_step (fail))
                  refine wpQuiet_nil ?_
                  intro _ hw'
                  obtain ⟨nq, hw''⟩ := hw'
                  subst hw''
                  go_wp2
                  go_meet
                  case rel => exact ⟨_, rfl, by rw [hbr'.out]; simp [Hid, *], n' + nq, by first | rfl | exact World.drewN_drewN _ _ _⟩
            case rest =>
              obtain ⟨B2, rfl, HB2, n2, rfl⟩ := hcut
              clear hcs'
              go_wp2
              go_loopw [4, 6, 10] (fun pc' wd j wr => ∃ (i : Nat) (W2 : Bool), i ≤ r.length ∧ j = .int .i64 i ∧ pc' = .int .i64 (pc + p' + i : Nat) ∧ wd = .bool W2 ∧ Hid (W2 = (W' || (r.take i).any Pl.wideP)) ∧ ∃ n, wr = w.drewN n) (fun _ _ j _ => r.length - (intOf j).toNat)
              case atStart => exact ⟨0, W', Nat.zero_le _, rfl, by simp, rfl, by simp [Hid], n2, rfl⟩
              case round =>
                obtain ⟨i, W2, hi, rfl, rfl, rfl, HW2, n3, rfl⟩ := hrel
                by_cases hli : i < r.length
                · obtain ⟨⟨x, y⟩, hxy⟩ := Pl.some_of_lt hli
                  obtain ⟨b3, rfl, cx, cy⟩ := hp'.out i _ hxy
                  dsimp only at cx cy
                  have HS := hide (or_step1 HW2.out (Pl.any_take_succ Pl.wideP hxy))
                  clear hxy HW2 hp'
                  have HP := hide (far_or x y)
                  cases hfx : Pl.farC x <;> cases hfy : Pl.farC y <;> cases W2
                  all_goals
                    have hfx' := hide hfx
                    have hfy' := hide hfy
                    clear hfx hfy
                    go_wp2_with (go_at_call 53; refine (far_any _ _).mono ?_; rintro e w' ⟨rfl, rfl⟩; first | rw [hfx'.out] | rw [hfy'.out])
                    go_roundw
                    case rel => exact ⟨i + 1, _, by omega, by go_num, by go_num, rfl, HS.out _ (by rw [HP.out, hfx'.out, hfy'.out]; rfl), _, rfl⟩
                    case measure => simp [intOf]; omega
                · have : i = r.length := by omega
                  subst this
                  rw [List.take_length] at HW2
                  go_wp2
                  go_roundw
                  case rel => exact ⟨q + 1, p' + r.length, B2, W2, by omega, by go_num, by go_num, by go_num, rfl, rfl, by rw [eQ.out, ← Hp.out]; rfl, HN.out _ HB2.out, HV.out _ HW2.out, _, rfl⟩
                  case measure => simp [intOf]; omega
          · have : q = l.length := by omega
            subst this
            rw [List.take_length] at Hp HB' HW'
            go_wp2
            go_roundw
            case rel => exact ⟨k + 1, rc + l.length, pc + p', B', W', by omega, by go_num, rfl, rfl, rfl, rfl, by rw [eR.out, ← Hrc.out]; rfl, by rw [eP.out, ← Hpc.out, ← Hp.out]; rfl, by rw [eB.out, HB'.out]; simp [Hid, Pl.badL, Pl.badRs, Bool.or_assoc], by rw [eW.out, HW'.out, HW.out]; rfl, _, rfl⟩
            case measure => simp [intOf]; omega
    · have : k = m.length := by omega
      subst this
      rw [List.take_length] at Hrc Hpc HB HW
      have HX := hide (wrong_of m)
      rw [← HB.out, ← HW.out] at HX
      have HM : Hid (Pl.many m = (decide (8 < m.length) || decide (12 < rc) || decide (100 < pc))) := by rw [Hrc.out, Hpc.out]; rfl
      by_cases h8 : 8 < m.length
      · have HM2 : Hid (Pl.many m = true) := by rw [HM.out]; simp [Hid, h8]
        go_wp2
        go_ret
        exact ⟨by rw [HX.out, HM2.out]; rfl, _, rfl⟩
      · by_cases h12 : 12 < rc
        · have HM2 : Hid (Pl.many m = true) := by rw [HM.out]; simp [Hid, h12]
          go_wp2
          go_ret
          exact ⟨by rw [HX.out, HM2.out]; rfl, _, rfl⟩
        · by_cases h100 : 100 < pc
          · have HM2 : Hid (Pl.many m = true) := by rw [HM.out]; simp [Hid, h100]
            go_wp2
            go_ret
            exact ⟨by rw [HX.out, HM2.out]; rfl, _, rfl⟩
          · have HM2 : Hid (Pl.many m = false) := by rw [HM.out]; simp [Hid]; omega
            cases B <;> cases W
            all_goals
              go_wp2
              go_ret
              exact ⟨by rw [HX.out, HM2.out]; rfl, _, rfl⟩

end Go.Proofs.YtcclepohmhdpbaaGreatDoor
