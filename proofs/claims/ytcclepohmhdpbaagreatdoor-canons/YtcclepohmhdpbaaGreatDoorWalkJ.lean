/- THE WALKS: (*handed).stands. -/
import Derived.Test.YtcclepohmhdpbaaGreatDoorHanded
namespace Go.Proofs.YtcclepohmhdpbaaGreatDoor
set_option linter.all false
open Go.RowKit Go.Deep

set_option maxRecDepth 100000 in
set_option maxHeartbeats 4000000 in
theorem hstands_any (F : Nat → Prop) (w : World) (hb o : Nat) (sv pv rv rmv pmv : Value) (sm : Int) (R P : List (Value × Int)) (n : Nat) (h : HS F w sv pv rv rmv pmv sm R P n)
    (h0 : w.cell? ⟨hb, o, none⟩ = some sv) (h1 : w.cell? ⟨hb, o + 1, none⟩ = some pv) (h2 : w.cell? ⟨hb, o + 2, none⟩ = some rv) (h3 : w.cell? ⟨hb, o + 3, none⟩ = some rmv) (h4 : w.cell? ⟨hb, o + 4, none⟩ = some pmv) (h5 : w.cell? ⟨hb, o + 5, none⟩ = some (.int .i64 sm)) :
    Calls Tryz.prog 69 #[.pointer (some ⟨hb, o, none⟩)] w fun e w' => e = .returned (.bool true) ∧ Dr w w' := by
  have hH := hide h
  have H0 := hide h0
  have H1 := hide h1
  have H2 := hide h2
  have H3 := hide h3
  have H4 := hide h4
  have H5 := hide h5
  have bn := h.bn
  have bR := h.bR
  have bP := h.bP
  obtain ⟨aR, cR, eR, gR⟩ := h.rings
  obtain ⟨aM, cM, eM, gM⟩ := h.rm
  obtain ⟨aP, cP, eP, gP⟩ := h.polys
  obtain ⟨aQ, cQ, eQ, gQ⟩ := h.pm
  obtain ⟨aS, cS, eS, gS⟩ := h.set
  rw [fstV_length] at eR eP
  rw [intV_length] at eM eQ
  rw [List.length_replicate] at eS
  subst eR eM eP eQ eS
  have gR' := hide gR
  have gM' := hide gM
  have gP' := hide gP
  have gQ' := hide gQ
  have gS' := hide gS
  clear h h0 h1 h2 h3 h4 h5 gR gM gP gQ gS
  go_enter Tryz.func69, Tryz.ntmps69
  go_wp2
  go_loopw [3] (fun i wr => ∃ k : Nat, k ≤ R.length ∧ i = .int .i64 k ∧ Dr w wr) (fun i _ => R.length - (intOf i).toNat)
  case atStart => exact ⟨0, Nat.zero_le _, rfl, Dr.refl _⟩
  case round =>
    obtain ⟨k, hk, rfl, hdr⟩ := hrel
    have hdr' := hide hdr
    have c2 := hdr.up.cell H2.out
    by_cases hlt : k < R.length
    · obtain ⟨⟨ev, em⟩, he⟩ := Pl.some_of_lt hlt
      obtain ⟨b1, f1, rfl, cc1⟩ := gR'.out k ev (by simp [fstV, he])
      obtain ⟨b2, f2, rfl, cc2⟩ := gM'.out k (.int .i64 em) (by simp [intV, he])
      obtain ⟨m, bm, am, cm, em1, gm⟩ := hH.out.rr (ev, em) (Pl.mem_of_some he)
      dsimp only at em1 gm
      rw [List.length_replicate] at em1
      subst em1
      have C1 := hide cc1
      have C2 := hide cc2
      have gm' := hide gm
      have d1 := hdr.up.cell cc1
      clear hdr cc1 cc2 gm he gR' gM'
      go_wp2
      clear c2 d1
      go_loopw [4] (fun j wr => ∃ q : Nat, q ≤ m ∧ j = .int .i64 q ∧ Dr w wr) (fun j _ => m - (intOf j).toNat)
      case atStart => exact ⟨0, Nat.zero_le _, rfl, hdr'.out⟩
      case round =>
        obtain ⟨q, hq, rfl, hdq⟩ := hrel
        have hdq' := hide hdq
        have c2 := hdq.up.cell H2.out
        have c3 := hdq.up.cell H3.out
        have d1 := hdq.up.cell C1.out
        have d2 := hdq.up.cell C2.out
        by_cases hlq : q < m
        · obtain ⟨b3, f3, rfl, x1, x2⟩ := gm'.out q _ (rep_at hlq)
          have y1 := hdq.up.cell x1
          have y2 := hdq.up.cell x2
          dsimp only at y1 y2
          clear hdq x1 x2 gm'
          go_wp2
          refine wp_region_quiet_lit (by kernel_rfl) (by kernel_rfl) ?_
          repeat (first | go_big_quiet_step (fail) | quiet_step (fail))
          refine wpQuiet_nil ?_
          intro _ hw'
          obtain ⟨nq, hw''⟩ := hw'
          subst hw''
          go_wp2
          go_roundw
          case rel => exact ⟨q + 1, by omega, by go_num, hdq'.out.n _⟩
          case measure => simp [intOf]; omega
        · have : q = m := by omega
          subst this
          clear hdq
          go_wp2
          go_roundw
          case rel => exact ⟨k + 1, by omega, by go_num, hdq'.out⟩
          case measure => simp [intOf]; omega
    · have : k = R.length := by omega
      subst this
      clear hdr
      go_wp2
      clear c2
      go_loopw [5] (fun i wr => ∃ k : Nat, k ≤ P.length ∧ i = .int .i64 k ∧ Dr w wr) (fun i _ => P.length - (intOf i).toNat)
      case atStart => exact ⟨0, Nat.zero_le _, rfl, hdr'.out⟩
      case round =>
        obtain ⟨k, hk, rfl, hdr⟩ := hrel
        have hdk' := hide hdr
        have c1 := hdr.up.cell H1.out
        by_cases hlt : k < P.length
        · obtain ⟨⟨ev, em⟩, he⟩ := Pl.some_of_lt hlt
          obtain ⟨b1, f1, rfl, cc1⟩ := gP'.out k ev (by simp [fstV, he])
          obtain ⟨b2, f2, rfl, cc2⟩ := gQ'.out k (.int .i64 em) (by simp [intV, he])
          obtain ⟨m, bm, am, cm, em1, gm⟩ := hH.out.pp (ev, em) (Pl.mem_of_some he)
          dsimp only at em1 gm
          rw [List.length_replicate] at em1
          subst em1
          have C1 := hide cc1
          have C2 := hide cc2
          have gm' := hide gm
          have d1 := hdr.up.cell cc1
          clear hdr cc1 cc2 gm he gP' gQ'
          go_wp2
          clear c1 d1
          go_loopw [6] (fun j wr => ∃ q : Nat, q ≤ m ∧ j = .int .i64 q ∧ Dr w wr) (fun j _ => m - (intOf j).toNat)
          case atStart => exact ⟨0, Nat.zero_le _, rfl, hdk'.out⟩
          case round =>
            obtain ⟨q, hq, rfl, hdq⟩ := hrel
            have hdq' := hide hdq
            have c1 := hdq.up.cell H1.out
            have c4 := hdq.up.cell H4.out
            have d1 := hdq.up.cell C1.out
            have d2 := hdq.up.cell C2.out
            by_cases hlq : q < m
            · obtain ⟨b3, u3, f3, rfl, x1, a4, c5, e4, g4⟩ := gm'.out q _ (rep_at hlq)
              obtain ⟨b4, f4, rfl, x2, x3⟩ := g4 0 _ rfl
              subst e4
              have y1 := hdq.up.cell x1
              have y2 := hdq.up.cell x2
              have y3 := hdq.up.cell x3
              simp only [List.length_cons, List.length_nil, Nat.zero_add, Nat.zero_mul] at y1 y2 y3
              clear hdq x1 x2 x3 gm' g4
              go_wp2
              refine wp_region_quiet_lit (by kernel_rfl) (by kernel_rfl) ?_
              repeat (first | go_big_quiet_step (fail) | quiet_step (fail))
              refine wpQuiet_nil ?_
              intro _ hw'
              obtain ⟨nq, hw''⟩ := hw'
              subst hw''
              go_wp2
              go_roundw
              case rel => exact ⟨q + 1, by omega, by go_num, hdq'.out.n _⟩
              case measure => simp [intOf]; omega
            · have : q = m := by omega
              subst this
              clear hdq
              go_wp2
              go_roundw
              case rel => exact ⟨k + 1, by omega, by go_num, hdq'.out⟩
              case measure => simp [intOf]; omega
        · have : k = P.length := by omega
          subst this
          clear hdr
          go_wp2
          clear c1
          go_loopw [8] (fun i wr => ∃ k : Nat, k ≤ n ∧ i = .int .i64 k ∧ Dr w wr) (fun i _ => n - (intOf i).toNat)
          case atStart => exact ⟨0, Nat.zero_le _, rfl, hdk'.out⟩
          case round =>
            obtain ⟨k, hk, rfl, hdr⟩ := hrel
            have hdz' := hide hdr
            have c0 := hdr.up.cell H0.out
            have c5 := hdr.up.cell H5.out
            by_cases hlt : k < n
            · obtain ⟨b1, u1, f1, rfl, x1, a2, c2, e2, g2⟩ := gS'.out k _ (rep_at hlt)
              obtain ⟨b3, u3, f3, rfl, x2, a4, c4, e4, g4⟩ := g2 0 _ rfl
              obtain ⟨b5, f5, rfl, x3, x4⟩ := g4 0 _ rfl
              subst e2 e4
              have y1 := hdr.up.cell x1
              have y2 := hdr.up.cell x2
              have y3 := hdr.up.cell x3
              have y4 := hdr.up.cell x4
              simp only [List.length_cons, List.length_nil, Nat.zero_add, Nat.zero_mul] at y1 y2 y3 y4
              clear hdr x1 x2 x3 x4 g2 g4 gS'
              go_wp2
              refine wp_region_quiet_lit (by kernel_rfl) (by kernel_rfl) ?_
              repeat (first | go_big_quiet_step (fail) | quiet_step (fail))
              refine wpQuiet_nil ?_
              intro _ hw'
              obtain ⟨nq, hw''⟩ := hw'
              subst hw''
              go_wp2
              go_roundw
              case rel => exact ⟨k + 1, by omega, by go_num, hdz'.out.n _⟩
              case measure => simp [intOf]; omega
            · have : k = n := by omega
              subst this
              clear hdr
              go_wp2
              go_ret
              exact ⟨rfl, hdz'.out⟩

end Go.Proofs.YtcclepohmhdpbaaGreatDoor
