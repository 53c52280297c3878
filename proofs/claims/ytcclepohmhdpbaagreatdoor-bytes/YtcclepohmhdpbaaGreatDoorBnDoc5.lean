/- THE DOCUMENT's BYTES, READ: the walk. -/
import Derived.Test.YtcclepohmhdpbaaGreatDoorBnDoc3
import Derived.Test.YtcclepohmhdpbaaGreatDoorBnDec
import Derived.Test.YtcclepohmhdpbaaGreatDoorQs
namespace Go.Proofs.YtcclepohmhdpbaaGreatDoor
set_option linter.all false
open Go.RowKit Go.Deep

theorem head_of {kind : Nat} {l l1 l2 : List UInt8} {lit b1 b2 : Bool} {n : Nat} (h : Bn.beg kind l = if b1 = true then none else some (lit, l1)) (k : CutP 4 lit l1 b1 n l2 b2) : Bn.head kind l = if b2 = true then none else some (lit, n, l2) := by
  rw [Bn.head_eq, h]
  cases b1
  · simp only [Bool.false_eq_true, if_false, Option.bind_some]
    rw [k.cut]
    cases b2 <;> simp
  · have := k.bad
    subst this
    rfl
theorem poly_of {l l2 : List UInt8} {lit b2 o : Bool} {n : Nat} (h : Bn.head 3 l = if b2 = true then none else some (lit, n, l2)) : Bn.poly l o = if b2 = true then none else Bn.pre [] (Bn.many (Bn.ring lit) n l2 o) := by
  unfold Bn.poly
  rw [h, Bn.pre_nil]
  cases b2 <;> rfl
theorem set_of {l l2 : List UInt8} {lit b2 : Bool} {n : Nat} (h : Bn.head 6 l = if b2 = true then none else some (lit, n, l2)) : Bn.set l = if b2 = true then none else Bn.pre [] (Bn.many Bn.poly n l2 false) := by
  unfold Bn.set
  rw [h, Bn.pre_nil]
  cases b2 <;> rfl
theorem ring_of {l l2 : List UInt8} {lit b2 o : Bool} {n : Nat} (k : CutP 4 lit l false n l2 b2) : Bn.ring lit l o = if b2 = true then none else Bn.pre [] (Bn.many (Bn.point lit) n l2 o) := by
  unfold Bn.ring
  rw [k.cut, Bn.pre_nil]
  cases b2 <;> rfl
namespace Bn
theorem at_end {α : Type} {f : List UInt8 → Bool → Res α} {T : Res (List α)} {acc : List α} {n k : Nat} {l : List UInt8} {o b : Bool} (h : T = if b = true then none else pre acc (many f (n - k) l o)) (hk : ¬ k < n ∨ b = true) : T = if b = true then none else some (acc, l, o) := by
  rcases hk with hk | hk
  · rw [h, show n - k = 0 by omega, many_zero]
  · subst hk; exact h
theorem at_go {α : Type} {f : List UInt8 → Bool → Res α} {T : Res (List α)} {acc : List α} {n k : Nat} {l : List UInt8} {o : Bool} (h : T = if false = true then none else pre acc (many f (n - k) l o)) (hk : k < n) : T = pre acc (many f (n - (k + 1) + 1) l o) := by
  rw [h, show n - k = n - (k + 1) + 1 by omega]; rfl
end Bn

set_option maxRecDepth 100000 in
set_option maxHeartbeats 8000000 in
theorem dBytes_any (l : List UInt8) (w : World) (hl : l.length ≤ 6000) :
    Calls Tryz.prog 46 #[.string (bs l)] w (ReadPost (Bn.err l) (Bn.got l) w) := by
  have hnew := VRow.new w [.string (bs l), .bool false, .bool false] 102
  have HB := hide (dbegins_any 6 l false w.heap.size _ hnew hl)
  clear hnew
  go_enter Tryz.func46, Tryz.ntmps46
  go_wp2_with fail
  refine HB.out.mono ?_
  rintro e w1 ⟨lit, l1, b1, rfl, h1, u1, p1, hl1⟩
  obtain ⟨B, hB⟩ : ∃ B, B = w.heap.size := ⟨_, rfl⟩
  have HU1 : Hid (Up w w1) := ((Fr.of_up ((Up.refl w).alloc _)).then u1 (T := (· = w.heap.size)) (S := fun x => w.heap.size ≤ x) (fun x _ e => by omega)).up (fun x hx => by omega)
  rw [← hB] at h1 ⊢
  have HBB := hide hB
  replace h1 := hide h1
  replace p1 := hide p1
  clear u1 HB hB
  go_wp2_with fail
  refine (dcut_any 4 lit l1 b1 false B _ h1.out (by omega) hl1).mono ?_
  rintro e w2 ⟨N, l2, b2, rfl, h2, u2, p2, hN, hl2⟩
  have HQ := hide (set_of (head_of p1.out p2))
  have HU2 : Hid (Up w w2) := ((Fr.of_up HU1.out).then u2 (T := (· = B)) (S := fun x => w.heap.size ≤ x) (fun x _ e => by have := HBB.out; omega)).up (fun x hx => by omega)
  have HS2 := hide (Q3.start h2 hl2)
  have hN' : (N : Int) < 4294967296 := by omega
  clear h2 u2 p2 p1 h1 HU1 hN
  go_wp2_with fail
  go_loopw [7, 8] (fun v i wr => ∃ (k : Nat) (ps : List L2) (l' : List UInt8) (bad wide : Bool) (u : Value), k ≤ N ∧ i = .int .i64 k ∧ u = v ∧ Hid (Q3 w2 wr B u ps l' bad wide) ∧ Hid (Bn.set l = if bad = true then none else Bn.pre (ps.map L2.pts) (Bn.many Bn.poly (N - k) l' wide))) (fun _ i _ => N - (intOf i).toNat)
  case atStart => exact ⟨0, [], l2, b2, false, _, Nat.zero_le _, rfl, rfl, HS2, HQ⟩
  case round =>
    obtain ⟨wo, hw⟩ : ∃ x, x = wr := ⟨_, rfl⟩
    subst hw
    obtain ⟨k, ps, l3, bad, wide, v, hk, rfl, rfl, H3, HT⟩ := hrel
    have c1 := H3.out.sd.c1
    by_cases hgo : k < N ∧ bad = false
    · obtain ⟨hlt, hbad⟩ := hgo
      subst hbad
      have HT2 := hide (Bn.at_go HT.out hlt)
      have hl3 := H3.out.rest
      clear HT
      go_wp2_with fail
      refine (dbegins_any 3 l3 wide B _ H3.out.sd hl3).mono ?_
      rintro e w3 ⟨lit3, l4, b3, rfl, h3, u3, p3, hl4⟩
      replace h3 := hide h3
      replace u3 := hide u3
      replace p3 := hide p3
      clear c1
      go_wp2_with fail
      refine (dcut_any 4 lit3 l4 b3 wide B _ h3.out (by omega) hl4).mono ?_
      rintro e w4 ⟨K, l5, b4, rfl, h4, u4, p4, hK, hl5⟩
      have HP := hide (poly_of (o := wide) (head_of p3.out p4))
      have HS4 := hide (Q2.start h4 hl5)
      have HF4 : Hid (Fr (· = B) wo w4) := u3.out.trans u4
      have hK' : (K : Int) < 4294967296 := by omega
      clear h4 u4 p4 p3 h3 u3 hK
      go_wp2_with fail
      go_loopw [11, 12] (fun v i wr2 => ∃ (k : Nat) (rs : List L1) (l' : List UInt8) (bad wide' : Bool) (u : Value), k ≤ K ∧ i = .int .i64 k ∧ u = v ∧ Hid (Q2 w4 wr2 B u rs l' bad wide') ∧ Hid (Bn.poly l3 wide = if bad = true then none else Bn.pre (rs.map L1.r) (Bn.many (Bn.ring lit3) (K - k) l' wide'))) (fun _ i _ => K - (intOf i).toNat)
      case atStart => exact ⟨0, [], l5, b4, wide, _, Nat.zero_le _, rfl, rfl, HS4, HP⟩
      case round =>
        obtain ⟨wm, hw⟩ : ∃ x, x = wr := ⟨_, rfl⟩
        subst hw
        obtain ⟨k2, rs, l6, bad2, wide2, v2, hk2, rfl, rfl, H2, HT3⟩ := hrel
        have d1 := H2.out.sd.c1
        by_cases hgo2 : k2 < K ∧ bad2 = false
        · obtain ⟨hlt2, hbad2⟩ := hgo2
          subst hbad2
          have HT4 := hide (Bn.at_go HT3.out hlt2)
          have hl6 := H2.out.rest
          clear HT3
          go_wp2_with fail
          refine (dcut_any 4 lit3 l6 false wide2 B _ H2.out.sd (by omega) hl6).mono ?_
          rintro e w5 ⟨C, l7, b5, rfl, h5, u5, p5, hC, hl7⟩
          have HR := hide (ring_of (o := wide2) p5)
          have HS5 := hide (Q1.start h5 hl7)
          have HF5 := hide u5
          have hC' : (C : Int) < 4294967296 := by omega
          clear h5 u5 p5 hC d1
          go_wp2_with fail
          go_loopw [14, 15] (fun v i wr3 => ∃ (k : Nat) (r : Ring) (l' : List UInt8) (bad wide' : Bool) (u : Value), k ≤ C ∧ i = .int .i64 k ∧ u = v ∧ Hid (Q1 w5 wr3 B u r l' bad wide') ∧ Hid (Bn.ring lit3 l6 wide2 = if bad = true then none else Bn.pre r (Bn.many (Bn.point lit3) (C - k) l' wide'))) (fun _ i _ => C - (intOf i).toNat)
          case atStart => exact ⟨0, [], l7, b5, wide2, _, Nat.zero_le _, rfl, rfl, HS5, HR⟩
          case round =>
            obtain ⟨wi, hw⟩ : ∃ x, x = wr := ⟨_, rfl⟩
            subst hw
            obtain ⟨k3, r, l8, bad3, wide3, v3, hk3, rfl, rfl, H1, HT5⟩ := hrel
            have f1 := H1.out.sd.c1
            by_cases hgo3 : k3 < C ∧ bad3 = false
            · obtain ⟨hlt3, hbad3⟩ := hgo3
              subst hbad3
              have HT6 := hide (Bn.at_go HT5.out hlt3)
              have hl8 := H1.out.rest
              have hrl := H1.out.len
              clear HT5
              go_wp2_with fail
              refine (dreals_any lit3 l8 false wide3 B _ H1.out.sd hl8).mono ?_
              rintro e w6 ⟨x, l9, b6, o6, rfl, h6, u6, p6, hl9⟩
              replace h6 := hide h6
              replace u6 := hide u6
              replace p6 := hide p6
              clear f1
              go_wp2_with fail
              refine (dreals_any lit3 l9 b6 o6 B _ h6.out hl9).mono ?_
              rintro e w7 ⟨y, l10, b7, o7, rfl, h7, u7, p7, hl10⟩
              have hp := hide (p6.out.two p7)
              have HF7 : Hid (Fr (· = B) wi w7) := u6.out.trans u7
              replace h7 := hide h7
              have HO7 : Hid (w7.ownsRow w5.heap.size 32 2 v3 r.length (flat r)) := own_fr H1.out.own HF7.out fun g hg e => own_row_ne H1.out.own H1.out.sd (by decide) (e ▸ hg)
              have HOA := hide (HO7.out.alloc (.cells #[.int .i64 x, .int .i64 y] 32))
              have hrb : Hid (r.length ≤ 1073741824) := by show _ ≤ _; omega
              have hsz := hide (H1.out.fr.trans HF7.out).size
              clear u7 p7 p6 u6 h6
              go_wp2_with (at_builtin; refine wpList_app el_pt rfl (.tmp 78) (.tmp 82) rfl w5.heap.size _ _ _ (by rfl) HOA.out w7.heap.size [.int .i64 x, .int .i64 y] (by rfl) rfl (heap_alloc_new w7 _) (by intro u hu; simp at hu; rcases hu with rfl | rfl <;> rfl) hrb.out (by simp; have := hsz.out; omega) ?_; intro g cap w8 hown8 hg8 hat8 hlt8; replace hown8 := hide hown8; replace hg8 := hide hg8; clear hat8 hlt8)
              go_roundw
              case rel => exact ⟨k3 + 1, r ++ [(x, y)], l10, b7, o7, _, by omega, by go_num, rfl, H1.out.step h7.out HF7.out hp.out.2 hl10 hown8.out hg8.out, Bn.go_on HT6.out hp.out.1⟩
              case measure => simp [intOf]; omega
            · have hex : ¬ k3 < C ∨ bad3 = true := by
                by_cases h : k3 < C
                · right; cases bad3
                  · exact absurd ⟨h, rfl⟩ hgo3
                  · rfl
                · exact .inl h
              have HE := hide (Bn.at_end HT5.out hex)
              obtain ⟨xa, xn, xc, rfl⟩ : ∃ a n c, v3 = .slice a n c := own_shape H1.out.own
              have hrs := H2.out.len
              have HX : Hid (L1.ok wi ⟨.slice xa xn xc, r⟩) := own_base H1.out.own (Nat.zero_le _)
              have HFx : Hid (Fr (· = B) wm wi) := HF5.out.trans H1.out.fr
              have HOx : Hid (wi.ownsRow w4.heap.size 30 1 v2 rs.length (rs.map L1.v)) := own_fr H2.out.own HFx.out fun g hg e => own_row_ne H2.out.own H2.out.sd (by decide) (e ▸ hg)
              have HOA := hide (HOx.out.alloc (.cells #[.slice xa xn xc] 30))
              have hrb : Hid (rs.length ≤ 1073741824) := by show _ ≤ _; omega
              have hsz := hide (H2.out.fr.trans HFx.out).size
              have HLT : Hid (bad3 = false → l8.length + 1 ≤ l6.length) := fun e => by
                have := HE.out
                rw [e] at this
                exact (Bn.ring_lt this).1
              clear HT5 hgo3
              rcases hex with hx | hx
              · go_wp2_with (at_builtin; refine wpList_app el_rings rfl (.tmp 84) (.tmp 86) rfl w4.heap.size _ _ _ (by rfl) HOA.out wi.heap.size [.slice xa xn xc] (by rfl) rfl (heap_alloc_new wi _) (by intro u hu; simp at hu; subst hu; rfl) hrb.out (by simp; have := hsz.out; omega) ?_; intro g cap w8 hown8 hg8 hat8 hlt8; replace hown8 := hide hown8; replace hg8 := hide hg8; clear hat8 hlt8)
                go_roundw
                case rel => exact ⟨k2 + 1, rs ++ [(⟨.slice xa xn xc, r⟩ : L1)], l8, bad3, wide3, _, by omega, by go_num, rfl, hide (H2.out.step H1.out.sd HFx.out HX.out HLT.out H1.out.rest hown8.out hg8.out), by rw [List.map_append]; exact Bn.go_on HT4.out HE.out⟩
                case measure => simp [intOf]; omega
              · subst hx
                by_cases hlq : k3 < C
                all_goals
                  go_wp2_with (at_builtin; refine wpList_app el_rings rfl (.tmp 84) (.tmp 86) rfl w4.heap.size _ _ _ (by rfl) HOA.out wi.heap.size [.slice xa xn xc] (by rfl) rfl (heap_alloc_new wi _) (by intro u hu; simp at hu; subst hu; rfl) hrb.out (by simp; have := hsz.out; omega) ?_; intro g cap w8 hown8 hg8 hat8 hlt8; replace hown8 := hide hown8; replace hg8 := hide hg8; clear hat8 hlt8)
                  go_roundw
                  case rel => exact ⟨k2 + 1, rs ++ [(⟨.slice xa xn xc, r⟩ : L1)], l8, true, wide3, _, by omega, by go_num, rfl, hide (H2.out.step H1.out.sd HFx.out HX.out (fun e => by cases e) H1.out.rest hown8.out hg8.out), by rw [List.map_append]; exact Bn.go_on HT4.out HE.out⟩
                  case measure => simp [intOf]; omega
        · have hex : ¬ k2 < K ∨ bad2 = true := by
            by_cases h : k2 < K
            · right; cases bad2
              · exact absurd ⟨h, rfl⟩ hgo2
              · rfl
            · exact .inl h
          have HE := hide (Bn.at_end HT3.out hex)
          obtain ⟨xa, xn, xc, rfl⟩ : ∃ a n c, v2 = .slice a n c := own_shape H2.out.own
          have hrs := H3.out.len
          have HX : Hid (L2.ok wm ⟨.slice xa xn xc, rs⟩) := ⟨own_base H2.out.own (Nat.zero_le _), H2.out.sub⟩
          have HFx : Hid (Fr (· = B) wo wm) := HF4.out.trans H2.out.fr
          have HOx : Hid (wm.ownsRow w2.heap.size 33 1 v ps.length (ps.map L2.v)) := own_fr H3.out.own HFx.out fun g hg e => own_row_ne H3.out.own H3.out.sd (by decide) (e ▸ hg)
          have HOA := hide (HOx.out.alloc (.cells #[.slice xa xn xc] 33))
          have hrb : Hid (ps.length ≤ 1073741824) := by show _ ≤ _; omega
          have hsz := hide (H3.out.fr.trans HFx.out).size
          have HLT : Hid (bad2 = false → l6.length + 1 ≤ l3.length) := fun e => by
            have := HE.out
            rw [e] at this
            exact (Bn.poly_lt this).1
          clear HT3 hgo2
          rcases hex with hx | hx
          · go_wp2_with (at_builtin; refine wpList_app el_multi rfl (.tmp 89) (.tmp 91) rfl w2.heap.size _ _ _ (by rfl) HOA.out wm.heap.size [.slice xa xn xc] (by rfl) rfl (heap_alloc_new wm _) (by intro u hu; simp at hu; subst hu; rfl) hrb.out (by simp; have := hsz.out; omega) ?_; intro g cap w8 hown8 hg8 hat8 hlt8; replace hown8 := hide hown8; replace hg8 := hide hg8; clear hat8 hlt8)
            go_roundw
            case rel => exact ⟨k + 1, ps ++ [(⟨.slice xa xn xc, rs⟩ : L2)], l6, bad2, wide2, _, by omega, by go_num, rfl, hide (H3.out.step H2.out.sd HFx.out HX.out HLT.out H2.out.rest hown8.out hg8.out), by rw [List.map_append]; exact Bn.go_on HT2.out HE.out⟩
            case measure => simp [intOf]; omega
          · subst hx
            by_cases hlq : k2 < K
            all_goals
              go_wp2_with (at_builtin; refine wpList_app el_multi rfl (.tmp 89) (.tmp 91) rfl w2.heap.size _ _ _ (by rfl) HOA.out wm.heap.size [.slice xa xn xc] (by rfl) rfl (heap_alloc_new wm _) (by intro u hu; simp at hu; subst hu; rfl) hrb.out (by simp; have := hsz.out; omega) ?_; intro g cap w8 hown8 hg8 hat8 hlt8; replace hown8 := hide hown8; replace hg8 := hide hg8; clear hat8 hlt8)
              go_roundw
              case rel => exact ⟨k + 1, ps ++ [(⟨.slice xa xn xc, rs⟩ : L2)], l6, true, wide2, _, by omega, by go_num, rfl, hide (H3.out.step H2.out.sd HFx.out HX.out (fun e => by cases e) H2.out.rest hown8.out hg8.out), by rw [List.map_append]; exact Bn.go_on HT2.out HE.out⟩
              case measure => simp [intOf]; omega
    · have hex : ¬ k < N ∨ bad = true := by
        by_cases h : k < N
        · right; cases bad
          · exact absurd ⟨h, rfl⟩ hgo
          · rfl
        · exact .inl h
      have HE := hide (Bn.at_end HT.out hex)
      obtain ⟨xa, xn, xc, rfl⟩ : ∃ a n c, v = .slice a n c := own_shape H3.out.own
      have HX : Hid (L3.ok wo ⟨.slice xa xn xc, ps⟩) := ⟨own_base H3.out.own (Nat.zero_le _), H3.out.sub⟩
      have HU : Hid (Up w wo) := ((Fr.of_up HU2.out).then H3.out.fr (T := (· = B)) (S := fun x => w.heap.size ≤ x) (fun x _ e => by have := HBB.out; omega)).up (fun x hx => by omega)
      have c0 := H3.out.sd.c0
      have c2 := H3.out.sd.c2
      have t4 := bs_toList l3
      clear HT hgo H3 HU2 HS2
      cases bad
      · have hx : ¬ k < N := hex.resolve_right (by decide)
        have HQ2 : Hid (Bn.set l = some (L3.m ⟨.slice xa xn xc, ps⟩, l3, wide)) := HE.out
        have HEr := hide (Bn.err_some HQ2.out)
        have HG := hide (Bn.got_some HQ2.out)
        clear HE hex
        cases l3 with
        | nil =>
          cases wide
          · go_wp2
            go_ret2
            exact ⟨⟨.slice xa xn xc, ps⟩, by rw [HEr.out]; rfl, HX.out, fun _ => HG.out.symm, HU.out⟩
          · go_wp2
            go_ret2
            exact ⟨nil3, by rw [HEr.out]; rfl, nil3_ok _, (fun e => by rw [HEr.out] at e; cases e), HU.out⟩
        | cons a t =>
          go_wp2
          go_ret2
          exact ⟨nil3, by rw [HEr.out]; rfl, nil3_ok _, (fun e => by rw [HEr.out] at e; cases e), HU.out⟩
      · have HEr := hide (Bn.err_none (l := l) HE.out)
        clear HE
        by_cases hx : k < N
        all_goals
          go_wp2
          go_ret2
          exact ⟨nil3, by rw [HEr.out]; rfl, nil3_ok _, (fun e => by rw [HEr.out] at e; cases e), HU.out⟩
end Go.Proofs.YtcclepohmhdpbaaGreatDoor
