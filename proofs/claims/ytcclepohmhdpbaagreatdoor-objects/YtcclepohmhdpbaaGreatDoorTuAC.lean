/- THE DOCUMENT's NUMBERS: units, with an exponent (C). -/
import Derived.Test.YtcclepohmhdpbaaGreatDoorTuA
namespace Go.Proofs.YtcclepohmhdpbaaGreatDoor
set_option linter.all false
open Go.RowKit Go.Deep
attribute [local go_sem ↓] Go.wp_at_zero Go.wp_at_succ

set_option maxRecDepth 100000 in
set_option maxHeartbeats 8000000 in
theorem dUnits_C (l : List UInt8) (w : World) (h0 : 0 < l.length) (hl : l.length ≤ 6000) (x : UInt8) (t : List UInt8) (hS : (Du.scan l [] (-1)).2.2 = 69 :: x :: t) :
    Calls Tryz.prog 153 #[.string (bs l)] w fun e w' => e = .returned (unitsV (Tx.at_ l 0 == 45) (Du.units l)) ∧ Up w w' := by
  obtain ⟨e0, e1, e2, e3, e4, e5⟩ := bs_tells l
  clear e2 e3 e4 e5
  replace hS := hide hS
  go_enter Tryz.func153, Tryz.ntmps153
  go_wp2
  have HST : Hid (Scn l w w (.slice none 0 0) [] (-1) 0) := ⟨World.ownsRow_nil _ _ _ _, Up.refl w, by simp, by simp, by simp⟩
  go_loopw [5, 6, 7] (fun dv pv iv wr => ∃ (i : Nat) (d : List Nat) (p : Int) (u : Value), i ≤ l.length ∧ iv = .int .i64 i ∧ pv = .int .i64 p ∧ -1 ≤ p ∧ p ≤ 6000 ∧ u = dv ∧ Hid (Scn l w wr u d p i)) (fun _ _ iv _ => l.length - (intOf iv).toNat)
  case atStart => exact ⟨0, [], -1, _, by omega, rfl, rfl, by omega, by omega, rfl, HST⟩
  case round =>
    obtain ⟨i, d, p, u, hi, rfl, rfl, hp1, hp2, rfl, HS⟩ := hrel
    by_cases hlt : i < l.length ∧ Tx.at_ l i ≠ 101 ∧ Tx.at_ l i ≠ 69
    · obtain ⟨hlt, he1, he2⟩ := hlt
      have b1 : (Tx.at_ l i != 101) = true := bne_iff_ne.2 he1
      have b2 : (Tx.at_ l i != 69) = true := bne_iff_ne.2 he2
      have HX := hide (Du.scan_step (d := d) (p := p) hlt he1 he2)
      have hdl : d.length ≤ 6000 := by have := HS.out.len; omega
      have hat := Tx.at_nn (l := l) (i := i) hlt
      obtain ⟨ha1, ha2⟩ := hat
      obtain ⟨ua, un, uc, rfl⟩ : ∃ a n c, u = .slice a n c := own_shape HS.out.own
      obtain rfl : un = d.length := by obtain ⟨a, c, e⟩ := own_len HS.out.own; cases e; rfl
      clear he1 he2
      by_cases hd : Tx.digit (Tx.at_ l i) = true
      · have hr : 48 ≤ Tx.at_ l i ∧ Tx.at_ l i ≤ 57 := by simpa [Tx.digit] using hd
        have b3 : (Tx.at_ l i == 46) = false := beq_eq_false_iff_ne.2 (by omega)
        rw [if_pos hd, if_neg (by omega)] at HX
        obtain ⟨hr1, hr2⟩ := hr
        have HD := hide hd
        obtain ⟨n, hn⟩ : ∃ n : Nat, Tx.at_ l i = (n : Int) + 48 := ⟨(Tx.at_ l i - 48).toNat, by omega⟩
        have hn9 : n ≤ 9 := by omega
        have e48 : (Tx.at_ l i - 48).toNat = n := by omega
        rw [e48] at HX
        have HOA := hide (HS.out.own.alloc (.cells #[.int .i64 (n : Int)] 3))
        have q48 : Tx.at_ l i - 48 = (n : Int) := by omega
        have hb : Hid (d.length ≤ 1073741824) := by show _ ≤ _; omega
        have hsz := hide HS.out.up.size
        clear hd e48 hn
        go_wp2_with (first
          | (go_at_call 99; refine (isDigit_any _ _).mono ?_; rintro e w1 ⟨rfl, hw⟩; replace hw := hw.symm; subst hw; rw [HD.out])
          | (at_builtin; refine wpList_app el_ints rfl (.tmp 44) (.tmp 50) rfl w.heap.size _ _ _ (by rfl) HOA.out wr.heap.size [.int .i64 (n : Int)] (by rfl) rfl (heap_alloc_new wr _) (by intro u hu; simp at hu; subst hu; rfl) hb.out (by simp; have := hsz.out; omega) ?_; intro g cap w3 hown3 hg3 hat3 hlt3; replace hown3 := hide hown3; replace hg3 := hide hg3; clear hat3 hlt3))
        go_roundw
        case rel =>
          refine ⟨i + 1, d ++ [n], p, _, by omega, by go_num, rfl, hp1, hp2, rfl, ?_, up_grown (HS.out.up.alloc _) hg3.out (fun g e => (own_lt HS.out.own e).1), ?_, ?_, ?_⟩
          · rw [Du.ints_snoc, List.length_append]; exact hown3.out
          · rw [HS.out.scan, HX.out]
          · have := HS.out.len; simp; omega
          · intro m hm
            rcases List.mem_append.1 hm with hm | hm
            · exact HS.out.dig m hm
            · simp at hm; omega
        case measure => simp [intOf]; omega
      · have hdf : Tx.digit (Tx.at_ l i) = false := by simpa using hd
        rw [if_neg hd] at HX
        have HD := hide hdf
        clear hd hdf
        by_cases h46 : Tx.at_ l i = 46
        · rw [if_pos h46] at HX
          have b3 : (Tx.at_ l i == 46) = true := beq_iff_eq.2 h46
          clear h46
          go_wp2_with (go_at_call 99; refine (isDigit_any _ _).mono ?_; rintro e w1 ⟨rfl, hw⟩; replace hw := hw.symm; subst hw; rw [HD.out])
          go_roundw
          case rel => exact ⟨i + 1, d, d.length, _, by omega, by go_num, rfl, by omega, by omega, rfl, HS.out.own, HS.out.up, by rw [HS.out.scan, HX.out], by have := HS.out.len; omega, HS.out.dig⟩
          case measure => simp [intOf]; omega
        · rw [if_neg h46] at HX
          have b3 : (Tx.at_ l i == 46) = false := beq_eq_false_iff_ne.2 h46
          clear h46
          go_wp2_with (go_at_call 99; refine (isDigit_any _ _).mono ?_; rintro e w1 ⟨rfl, hw⟩; replace hw := hw.symm; subst hw; rw [HD.out])
          go_roundw
          case rel => exact ⟨i + 1, d, p, _, by omega, by go_num, rfl, hp1, hp2, rfl, HS.out.own, HS.out.up, by rw [HS.out.scan, HX.out], by have := HS.out.len; omega, HS.out.dig⟩
          case measure => simp [intOf]; omega
    · have HE : Hid (Du.scan l [] (-1) = (d, p, l.drop i)) := by
        show _ = _
        rw [HS.out.scan]
        by_cases h : i < l.length
        · refine Du.scan_e h ?_
          by_cases h1 : Tx.at_ l i = 101
          · exact .inl h1
          · right
            exact Classical.byContradiction fun h2 => hlt ⟨h, h1, h2⟩
        · exact Du.scan_end h
      have hdrop : l.drop i = 69 :: x :: t := by
        have := hS.out
        rw [HE.out] at this
        exact this
      have hx3 : i + 1 < l.length := by
        have := congrArg List.length hdrop
        simp at this
        omega
      have hx9 : Tx.at_ l i = 69 := by
        have := Tx.at_drop l i 0
        rw [hdrop] at this
        rw [Nat.add_zero] at this
        rw [← this]
        rfl
      have hx1 : (Tx.at_ l i != 101) = true := bne_iff_ne.2 (by omega)
      have hx2 : (Tx.at_ l i != 69) = false := bne_eq_false_iff_eq.2 hx9
      clear hx9
      clear hdrop
      have hdl : d.length ≤ 6000 := by have := HS.out.len; omega
      have HOW := hide HS.out.own
      have HUP := hide HS.out.up
      have HDG := hide HS.out.dig
      obtain ⟨ua, un, uc, rfl⟩ : ∃ a n c, u = .slice a n c := own_shape HS.out.own
      obtain rfl : un = d.length := by obtain ⟨a, c, e⟩ := own_len HS.out.own; cases e; rfl
      obtain ⟨P, hP⟩ : ∃ P : Int, P = if p < 0 then (d.length : Int) else p := ⟨_, rfl⟩
      have hPb : -1 ≤ P ∧ P ≤ 6000 := by rw [hP]; split <;> omega
      obtain ⟨hPb1, hPb2⟩ := hPb
      have HU : Hid (Du.units l = (Du.sumD (P + (if Tx.at_ l (i + 1) = 45 then -(Du.capD (l.drop i) 0 : Int) else (Du.capD (l.drop i) 0 : Int))) d 0 0).bind Du.fin) := by
        show _ = _
        unfold Du.units Du.place
        rw [HE.out]
        simp only [Tx.at_drop, hP]
      have HPP := hide hP
      clear hlt HS HE HST hP
      go_upto_if 55 with fail
      go_cut [6] (fun s wc => s = .int .i64 P ∧ wc = wr)
      case first =>
        by_cases hp : p < 0
        · have e : P = d.length := by rw [HPP.out, if_pos hp]
          have HEE := hide e
          clear e
          go_wp2
          go_meet
          case rel => exact ⟨by rw [HEE.out], rfl⟩
        · have e : P = p := by rw [HPP.out, if_neg hp]
          have HEE := hide e
          clear e
          go_wp2
          go_meet
          case rel => exact ⟨by rw [HEE.out], rfl⟩
      case rest =>
        obtain ⟨rfl, rfl⟩ := hcut
        go_wp2_with fail
        go_loop [8, 9] (fun ev kv => ∃ (k e : Nat) (X : Int), i ≤ k ∧ k ≤ l.length ∧ kv = .int .i64 k ∧ ev = .int .i64 X ∧ 0 ≤ X ∧ X ≤ 1000009 ∧ Hid (X = e) ∧ Hid (Du.capD (l.drop i) 0 = Du.capD (l.drop k) e)) (fun _ kv => l.length - (intOf kv).toNat)
        case atStart => exact ⟨i, 0, 0, Nat.le_refl _, by omega, rfl, rfl, by omega, by omega, rfl, rfl⟩
        case round =>
          obtain ⟨k, e, X, hk1, hk2, rfl, rfl, hX0, hX1, HXE, HC⟩ := hrel
          by_cases hlt2 : k < l.length
          · (first | (exfalso; omega) | skip)
            all_goals
              have HX := hide (Du.capD_step (e := e) hlt2)
              have hat := Tx.at_nn (l := l) (i := k) hlt2
              obtain ⟨ha1, ha2⟩ := hat
              by_cases hd : Tx.digit (Tx.at_ l k) = true
              · have hr : 48 ≤ Tx.at_ l k ∧ Tx.at_ l k ≤ 57 := by simpa [Tx.digit] using hd
                obtain ⟨hr1, hr2⟩ := hr
                obtain ⟨n, hn⟩ : ∃ n : Nat, Tx.at_ l k = (n : Int) + 48 := ⟨(Tx.at_ l k - 48).toNat, by omega⟩
                have q48 : Tx.at_ l k - 48 = (n : Int) := by omega
                have e48 : (Tx.at_ l k - 48).toNat = n := by omega
                have hn9 : n ≤ 9 := by omega
                have HD := hide hd
                rw [e48] at HX
                by_cases hc : X < 100000
                · rw [if_pos ⟨hd, by have := HXE.out; omega⟩] at HX
                  clear hd hn e48
                  go_wp2_with (go_at_call 99; refine (isDigit_any _ _).mono ?_; rintro e w1 ⟨rfl, hw⟩; replace hw := hw.symm; subst hw; rw [HD.out])
                  go_round
                  case rel => exact ⟨k + 1, 10 * e + n, 10 * X + n, by omega, by omega, by go_num, by go_num, by omega, by omega, by rw [HXE.out]; show _ = _; omega, HC.out.trans HX.out⟩
                  case measure => simp [intOf]; omega
                · rw [if_neg (fun h => hc (by have := HXE.out; have := h.2; omega))] at HX
                  clear hd hn e48
                  go_wp2_with (go_at_call 99; refine (isDigit_any _ _).mono ?_; rintro e w1 ⟨rfl, hw⟩; replace hw := hw.symm; subst hw; rw [HD.out])
                  go_round
                  case rel => exact ⟨k + 1, e, X, by omega, by omega, by go_num, rfl, hX0, hX1, HXE, HC.out.trans HX.out⟩
                  case measure => simp [intOf]; omega
              · have hdf : Tx.digit (Tx.at_ l k) = false := by simpa using hd
                have HD := hide hdf
                rw [if_neg (fun h => hd h.1)] at HX
                clear hd hdf
                go_wp2_with (go_at_call 99; refine (isDigit_any _ _).mono ?_; rintro e w1 ⟨rfl, hw⟩; replace hw := hw.symm; subst hw; rw [HD.out])
                go_round
                case rel => exact ⟨k + 1, e, X, by omega, by omega, by go_num, rfl, hX0, hX1, HXE, HC.out.trans HX.out⟩
                case measure => simp [intOf]; omega
          · have HCE : Hid (Du.capD (l.drop i) 0 = e) := HC.out.trans (Du.capD_end hlt2)
            obtain ⟨E, hE⟩ : ∃ E : Int, E = if Tx.at_ l (i + 1) = 45 then -X else X := ⟨_, rfl⟩
            rw [HCE.out, ← HXE.out, ← hE] at HU
            have hEb : -1000009 ≤ E ∧ E ≤ 1000009 := by rw [hE]; split <;> omega
            obtain ⟨hEb1, hEb2⟩ := hEb
            have HEE := hide hE
            clear HC HCE hE
            go_upto_if 92 with fail
            go_cut [8] (fun s wd => s = .int .i64 E ∧ wd = wc)
            case first =>
              by_cases h45 : Tx.at_ l (i + 1) = 45
              · have h1 : i + 1 < l.length := Tx.lt_of_at (by omega)
                (first | (exfalso; omega) | skip)
                all_goals
                  have b45 : (Tx.at_ l (i + 1) == 45) = true := beq_iff_eq.2 h45
                  have q : E = -X := by rw [HEE.out, if_pos h45]
                  have HQ := hide q
                  clear q h45
                  go_wp2
                  go_meet
                  case rel => exact ⟨by rw [HQ.out], rfl⟩
              · have b45 : (Tx.at_ l (i + 1) == 45) = false := beq_eq_false_iff_ne.2 h45
                have q : E = X := by rw [HEE.out, if_neg h45]
                have HQ := hide q
                clear q h45
                go_wp2
                go_meet
                case rel => exact ⟨by rw [HQ.out], rfl⟩
            case rest =>
              obtain ⟨rfl, rfl⟩ := hcut
              go_wp2_with fail
              go_loop [10, 11] (fun vv kv => ∃ (k v : Nat) (V : Int), k ≤ d.length ∧ kv = .int .i64 k ∧ vv = .int .i64 V ∧ 0 ≤ V ∧ V ≤ 900000000 * k ∧ Hid (V = v) ∧ Hid (Du.units l = (Du.sumD (P + E) (d.drop k) k v).bind Du.fin)) (fun _ kv => d.length - (intOf kv).toNat)
              case atStart => exact ⟨0, 0, 0, by omega, rfl, rfl, by omega, by omega, rfl, HU⟩
              case round =>
                obtain ⟨k, v, V, hk, rfl, rfl, hV0, hV1, HV, HW⟩ := hrel
                by_cases hlt3 : k < d.length
                · obtain ⟨n, hn⟩ := Pl.some_of_lt hlt3
                  have hn9 := HDG.out n (Pl.mem_of_some hn)
                  have HX := hide (Du.sumD_step (P + E) v hn)
                  obtain ⟨g, cap', e', hc⟩ := own_cell HOW.out (by omega)
                  cases e'
                  have c0 := hc k (.int .i64 (n : Int)) (by rw [Du.ints, List.getElem?_map, hn]; rfl)
                  clear hc hn
                  by_cases hn0 : n = 0
                  · rw [if_pos hn0] at HX
                    have b0 : ((n : Int) == 0) = true := beq_iff_eq.2 (by omega)
                    clear hn0
                    go_wp2
                    go_round
                    case rel => exact ⟨k + 1, v, V, by omega, by go_num, rfl, hV0, by omega, HV, by rw [HW.out, HX.out]; exact rfl⟩
                    case measure => simp [intOf]; omega
                  · rw [if_neg hn0] at HX
                    have b0 : ((n : Int) == 0) = false := beq_eq_false_iff_ne.2 (by omega)
                    by_cases hp : P + E - 1 - (k : Int) < -4 ∨ 4 < P + E - 1 - (k : Int)
                    · rw [if_pos hp] at HX
                      have HN : Hid (Du.units l = none) := by rw [HW.out, HX.out]; exact rfl
                      clear HX HW
                      rcases hp with hp | hp
                      all_goals
                        go_wp2
                        go_ret2
                        rw [HN.out]
                        exact ⟨rfl, HUP.out⟩
                    · rw [if_neg hp] at HX
                      obtain ⟨M, hM⟩ : ∃ M : Nat, P + E - 1 - (k : Int) = (M : Int) - 4 := ⟨(P + E - 1 - (k : Int) + 4).toNat, by omega⟩
                      have hM8 : M ≤ 8 := by omega
                      have eM : (P + E - 1 - (k : Int) + 4).toNat = M := by omega
                      rw [eM] at HX
                      clear hp eM hn0
                      go_wp2_with fail
                      go_loop [13, 14] (fun tv jv => ∃ (m : Nat) (T : Int), m ≤ M ∧ jv = .int .i64 ((m : Int) - 4) ∧ tv = .int .i64 T ∧ 0 ≤ T ∧ T ≤ 900000000 ∧ Hid (T = ((n * 10 ^ m : Nat) : Int))) (fun _ jv => (100 - intOf jv).toNat)
                      case atStart => exact ⟨0, n, by omega, by go_num, rfl, by omega, by omega, by simp [Hid]⟩
                      case round =>
                        obtain ⟨m, T, hm, rfl, rfl, hT0, hT1, HT⟩ := hrel
                        by_cases hlt4 : m < M
                        · have hb := Du.ten_le (m := m + 1) hn9 (by omega)
                          have HP : Hid (10 * T = ((n * 10 ^ (m + 1) : Nat) : Int)) := by
                            show _ = _
                            rw [HT.out, Nat.pow_succ, ← Nat.mul_assoc]
                            omega
                          have hTb : 10 * T ≤ 900000000 := by rw [HP.out]; omega
                          clear hb
                          go_wp2
                          go_round
                          case rel => exact ⟨m + 1, 10 * T, by omega, by go_num, by go_num, by omega, hTb, HP⟩
                          case measure => simp [intOf]; omega
                        · have hmM : m = M := by omega
                          subst hmM
                          go_wp2
                          go_round
                          case rel => exact ⟨k + 1, v + n * 10 ^ m, V + T, by omega, by go_num, by go_num, by omega, by omega, by rw [HV.out, HT.out]; show _ = _; omega, by rw [HW.out, HX.out]; exact rfl⟩
                          case measure => simp [intOf]; omega
                · have HF : Hid (Du.units l = Du.fin v) := by rw [HW.out, Du.sumD_end _ hlt3]; exact rfl
                  clear HW
                  by_cases h6 : V % 625 = 0
                  · have b6 : (V % 625 != 0) = false := bne_eq_false_iff_eq.2 h6
                    by_cases h7 : 32768 < V / 625
                    · have HN : Hid (Du.units l = none) := by rw [HF.out, Du.fin_bad (.inr (by have := HV.out; omega))]; exact rfl
                      clear h6
                      go_wp2
                      go_ret2
                      rw [HN.out]
                      exact ⟨rfl, HUP.out⟩
                    · have HN : Hid (Du.units l = some (v / 625)) := by rw [HF.out, Du.fin_ok (by have := HV.out; omega) (by have := HV.out; omega)]; exact rfl
                      have HVV : Hid (V / 625 = ((v / 625 : Nat) : Int)) := by show _ = _; have := HV.out; omega
                      clear h6
                      cases hneg : (Tx.at_ l 0 == 45)
                      all_goals
                        have HG := hide hneg
                        go_wp2
                        go_ret2
                        rw [HN.out]
                        refine ⟨?_, HUP.out⟩
                        first
                          | (show Ending.returned (.tuple #[.int .i64 (V / 625), .bool true]) = _; rw [HVV.out]; rfl)
                          | (show Ending.returned (.tuple #[.int .i64 (-(V / 625)), .bool true]) = _; rw [HVV.out]; rfl)
                  · have b6 : (V % 625 != 0) = true := bne_iff_ne.2 h6
                    have HN : Hid (Du.units l = none) := by rw [HF.out, Du.fin_bad (.inl (by have := HV.out; omega))]; exact rfl
                    clear h6
                    go_wp2
                    go_ret2
                    rw [HN.out]
                    exact ⟨rfl, HUP.out⟩
end Go.Proofs.YtcclepohmhdpbaaGreatDoor
