/- THE WALKS: lists.outOfRange, Fault. -/
import Derived.Test.YtcclepohmhdpbaaWalkA
namespace Go.Proofs.Ytcclepohmhdpbaa
set_option linter.all false
open Go.RowKit Go.Deep

theorem far_or (x y : Int) : Pl.wideP (x, y) = (Pl.farC x || Pl.farC y) := rfl

set_option maxHeartbeats 1000000 in
theorem outOfRange_any (v : Value) (l : Poly) (w : World) (hv : Rd2 w v l) (hb : l.length ≤ 1048576) (hb2 : ∀ r ∈ l, r.length ≤ 1048576) :
    Calls Try.prog 24 #[v] w fun e w' => e = .returned (.bool (Pl.wideL l)) ∧ Up w w' := by
  obtain ⟨ao, cap, rfl, hm⟩ := hv
  go_enter Try.func24, Try.ntmps24
  go_wp2
  go_loopw [9] (fun i wr => ∃ k : Nat, k ≤ l.length ∧ i = .int .i64 k ∧ (l.take k).any Pl.wideR = false ∧ Up w wr) (fun i _ => l.length - (intOf i).toNat)
  case atStart => exact ⟨0, Nat.zero_le _, rfl, rfl, Up.refl _⟩
  case round =>
    obtain ⟨k, hk, rfl, hbad, hup⟩ := hrel
    by_cases hlt : k < l.length
    · obtain ⟨r, hr⟩ := Pl.some_of_lt hlt
      obtain ⟨b, u, rfl, hc, ao2, cap2, rfl, hp⟩ := hm k r hr
      have hrl := hb2 r (Pl.mem_of_some hr)
      have hc' := hup.cell hc
      have e1 := hide (Pl.any_take_succ Pl.wideR hr)
      have HR := hide hr
      have hm' := hide hm
      have hbad' := hide hbad
      have hb2' := hide hb2
      have hup' := hide hup
      have hp' := hide hp
      clear hr hm hbad hb2 hup hc hp
      go_wp2
      go_loopw [15] (fun j wq => ∃ q : Nat, q ≤ r.length ∧ j = .int .i64 q ∧ (r.take q).any Pl.wideP = false ∧ Up w wq) (fun j _ => r.length - (intOf j).toNat)
      case atStart => exact ⟨0, Nat.zero_le _, rfl, rfl, hup'.out⟩
      case round =>
        obtain ⟨q, hq, rfl, hbq, huq⟩ := hrel
        by_cases hlq : q < r.length
        · obtain ⟨⟨x, y⟩, hxy⟩ := Pl.some_of_lt hlq
          obtain ⟨b2, rfl, cx, cy⟩ := hp'.out q (x, y) hxy
          have cx' := huq.cell cx
          have cy' := huq.cell cy
          dsimp only at cx' cy'
          have e2 := hide (Pl.any_take_succ Pl.wideP hxy)
          have HXY := hide hxy
          have hbq' := hide hbq
          have huq' := hide huq
          clear hxy hbq huq cx cy hp'
          cases hfx : Pl.farC x
          · cases hfy : Pl.farC y
            · have hw2 : Hid (Pl.wideP (x, y) = false) := by simp [Hid, far_or, hfx, hfy]
              go_wp2_with (go_at_call 38; refine (isFar_any _ _).mono ?_; rintro e w' ⟨rfl, rfl⟩)
              go_roundw
              case rel => exact ⟨q + 1, by omega, by go_num, by rw [e2.out, hbq'.out, hw2.out]; rfl, huq'.out.alloc _⟩
              case measure => simp [intOf]; omega
            · have hw2 : Hid (Pl.wideP (x, y) = true) := by simp [Hid, far_or, hfx, hfy]
              go_wp2_with (go_at_call 38; refine (isFar_any _ _).mono ?_; rintro e w' ⟨rfl, rfl⟩)
              go_ret
              exact ⟨ret_bool (Pl.any_true_of Pl.wideR HR.out (Pl.any_true_of Pl.wideP HXY.out hw2.out)).symm, (huq'.out.alloc _)⟩
          · have hw2 : Hid (Pl.wideP (x, y) = true) := by simp [Hid, far_or, hfx]
            go_wp2_with (go_at_call 38; refine (isFar_any _ _).mono ?_; rintro e w' ⟨rfl, rfl⟩)
            go_ret
            exact ⟨ret_bool (Pl.any_true_of Pl.wideR HR.out (Pl.any_true_of Pl.wideP HXY.out hw2.out)).symm, (huq'.out.alloc _)⟩
        · have : q = r.length := by omega
          subst this
          rw [List.take_length] at hbq
          have hbq' := hide hbq
          clear hbq
          go_wp2
          go_roundw
          case rel => exact ⟨k + 1, by omega, by go_num, by rw [e1.out, hbad'.out, show Pl.wideR r = false from hbq'.out]; rfl, huq⟩
          case measure => simp [intOf]; omega
    · have : k = l.length := by omega
      subst this
      go_wp2
      go_ret
      rw [List.take_length] at hbad
      exact ⟨ret_bool hbad.symm, hup⟩

set_option maxHeartbeats 1000000 in
theorem fault_any (v : Value) (m : Mult) (w : World) (hv : Rd3 w v m) (hb : Pl.Bd m) :
    Calls Try.prog 16 #[v] w fun e w' => e = .returned (.int .i64 (Pl.wrong m)) ∧ Up w w' := by
  have hv' := hide hv
  have hb' := hide hb
  obtain ⟨ao, cap, rfl, hm⟩ := hv
  have hlen := hb.len
  clear hb
  cases hmany : Pl.many m
  · go_enter Try.func16, Try.ntmps16
    go_wp2_with (go_at_call 22; refine (tooMany_any _ m _ ?_ ?_).mono ?_; exact hv'.out; exact hb'.out; rintro e w' ⟨rfl, rfl⟩)
    go_loopw [11] (fun i wr => ∃ k : Nat, k ≤ m.length ∧ i = .int .i64 k ∧ (m.take k).any Pl.badL = false ∧ Up w' wr) (fun i _ => m.length - (intOf i).toNat)
    case atStart => exact ⟨0, Nat.zero_le _, rfl, rfl, Up.refl _⟩
    case round =>
      obtain ⟨k, hk, rfl, hbad, hup⟩ := hrel
      by_cases hlt : k < m.length
      · obtain ⟨l, hl⟩ := Pl.some_of_lt hlt
        obtain ⟨b, u, rfl, hc, hu⟩ := hm k l hl
        have hc' := hup.cell hc
        have hu' := hide (hu.up hup)
        have e1 := hide (Pl.any_take_succ Pl.badL hl)
        have HR := hide hl
        have hbad' := hide hbad
        have hup' := hide hup
        have hm' := hide hm
        clear hl hbad hup hc hu hm
        have B1 := hide (hb'.out.poly l (Pl.mem_of_some HR.out))
        have B2 := hide (hb'.out.ring l (Pl.mem_of_some HR.out))
        cases hbl : Pl.badL l
        · have hbl' := hide hbl
          go_wp2_with (go_at_call 23; refine (misformed_any _ l _ ?_ ?_ ?_).mono ?_; exact hu'.out; exact B1.out; exact B2.out; rintro e w' ⟨rfl, nq, rfl⟩; rw [hbl'.out])
          go_roundw
          case rel => exact ⟨k + 1, by omega, by go_num, by rw [e1.out, hbad'.out, hbl'.out]; rfl, hup'.out.drewN _⟩
          case measure => simp [intOf]; omega
        · have hbl' := hide hbl
          go_wp2_with (go_at_call 23; refine (misformed_any _ l _ ?_ ?_ ?_).mono ?_; exact hu'.out; exact B1.out; exact B2.out; rintro e w' ⟨rfl, nq, rfl⟩; rw [hbl'.out])
          go_ret
          exact ⟨by rw [Pl.wrong, hmany, Pl.any_true_of Pl.badL HR.out hbl'.out]; rfl, hup'.out.drewN _⟩
      · have : k = m.length := by omega
        subst this
        rw [List.take_length] at hbad
        have hbad' := hide hbad
        have hup' := hide hup
        clear hbad hup
        go_wp2
        go_loopw [20] (fun i wr => ∃ k : Nat, k ≤ m.length ∧ i = .int .i64 k ∧ (m.take k).any Pl.wideL = false ∧ Up w' wr) (fun i _ => m.length - (intOf i).toNat)
        case atStart => exact ⟨0, Nat.zero_le _, rfl, rfl, hup'.out⟩
        case round =>
          obtain ⟨k, hk, rfl, hbad, hup⟩ := hrel
          by_cases hlt : k < m.length
          · obtain ⟨l, hl⟩ := Pl.some_of_lt hlt
            obtain ⟨b, u, rfl, hc, hu⟩ := hm k l hl
            have hc' := hup.cell hc
            have hu' := hide (hu.up hup)
            have e1 := hide (Pl.any_take_succ Pl.wideL hl)
            have HR := hide hl
            have hbd := hide hbad
            have hup2 := hide hup
            have hm' := hide hm
            clear hl hbad hup hc hu hm
            have B1 := hide (hb'.out.poly l (Pl.mem_of_some HR.out))
            have B2 := hide (hb'.out.ring l (Pl.mem_of_some HR.out))
            cases hbl : Pl.wideL l
            · have hbl' := hide hbl
              go_wp2_with (go_at_call 24; refine (outOfRange_any _ l _ ?_ ?_ ?_).mono ?_; exact hu'.out; exact B1.out; exact B2.out; rintro e w2 ⟨rfl, hw2⟩; rw [hbl'.out]; replace hw2 := hide hw2)
              go_roundw
              case rel => exact ⟨k + 1, by omega, by go_num, by rw [e1.out, hbd.out, hbl'.out]; rfl, hup2.out.trans hw2.out⟩
              case measure => simp [intOf]; omega
            · have hbl' := hide hbl
              go_wp2_with (go_at_call 24; refine (outOfRange_any _ l _ ?_ ?_ ?_).mono ?_; exact hu'.out; exact B1.out; exact B2.out; rintro e w2 ⟨rfl, hw2⟩; rw [hbl'.out]; replace hw2 := hide hw2)
              go_ret
              exact ⟨by rw [Pl.wrong, hmany, hbad'.out, Pl.any_true_of Pl.wideL HR.out hbl'.out]; rfl, hup2.out.trans hw2.out⟩
          · have : k = m.length := by omega
            subst this
            rw [List.take_length] at hbad
            have hbd := hide hbad
            have hup2 := hide hup
            clear hbad hup
            go_wp2
            go_ret
            exact ⟨by rw [Pl.wrong, hmany, hbad'.out, hbd.out]; rfl, hup2.out⟩
  · go_enter Try.func16, Try.ntmps16
    go_wp2_with (go_at_call 22; refine (tooMany_any _ m _ ?_ ?_).mono ?_; exact hv'.out; exact hb'.out; rintro e w' ⟨rfl, rfl⟩)
    go_ret
    exact ⟨by rw [Pl.wrong, hmany]; rfl, Up.refl _⟩

end Go.Proofs.Ytcclepohmhdpbaa
