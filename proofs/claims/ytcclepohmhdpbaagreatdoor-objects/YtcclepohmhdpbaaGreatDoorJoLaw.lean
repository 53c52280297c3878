import Derived.Test.YtcclepohmhdpbaaGreatDoorJdE
import Derived.Test.YtcclepohmhdpbaaGreatDoorKeep
import Derived.Test.YtcclepohmhdpbaaGreatDoorSaid
import Derived.LaidEqlPtr
import Derived.Test.YtcclepohmhdpbaaGreatDoorDec
import Derived.Test.YtcclepohmhdpbaaGreatDoorLaw
/- THE DOCUMENT's JSON: objects. -/
namespace Go.Proofs.YtcclepohmhdpbaaGreatDoor
set_option linter.all false
open Go.RowKit Go.Deep

set_option maxRecDepth 100000 in
set_option maxHeartbeats 16000000 in
theorem many_object (n : Nat) (hn : n ≤ 6001) (IH : DReadAt n) (l : List UInt8) (h123 : Tx.at_ l 0 = 123) (hbare : Tx.bare l = l) (hln : l.length ≤ n + 1) (hl : l.length ≤ 6000) (w : World) :
    Calls Tryz.prog 117 #[.string (bs l), .int .i64 4, .int .u8 125] w (DRdPost (Js.lstD 123 125 true .obj (n + 1) l) l w) := by
  replace IH := hide IH
  obtain ⟨e0, -, e2, -, -, -⟩ := bs_tells l
  have hpos : 0 < l.length := Tx.lt_of_at (by omega)
  obtain ⟨l1, hl1⟩ : ∃ t, t = l.drop 1 := ⟨_, rfl⟩
  have hd1 : (bs l).extract 1 l.length = bs l1 := by rw [hl1]; exact e2 1
  have hlen1 : l1.length + 1 = l.length := by rw [hl1, List.length_drop]; omega
  have HB := hide (fun w => bare_any l1 w)
  obtain ⟨s, hs⟩ : ∃ s, s = Tx.bare l1 := ⟨_, rfl⟩
  rw [← hs] at HB
  have hsl : s.length ≤ l1.length := by rw [hs]; exact Tx.bare_le l1
  have HL0 : Hid (Js.list0 123 125 (Js.mem true (Js.rd n)) l = if Tx.pre [125] s = true then some ([], Tx.aft [125] s) else Js.items0 125 (Js.mem true (Js.rd n)) (l.length + 1) s) := by
    show _ = _
    have hp : Tx.pre [123] (Tx.bare l) = true := (Js.pre1 123 _).2 (by rw [hbare]; exact h123)
    unfold Js.list0
    rw [if_pos hp, Tx.aft_t hp, hbare, hs, hl1]
    rfl
  have HP : Hid (Js.lstD 123 125 true .obj (n + 1) l = (Js.list0 123 125 (Js.mem true (Js.rd n)) l).map fun x => (Js.V.obj (Js.ofM x.1), x.2)) := rfl
  obtain ⟨wA, hwA⟩ : ∃ W, W = w.alloc (.cells #[.int .i64 4, .string ⟨#[]⟩, .slice none 0 0, .slice none 0 0, .slice none 0 0, .int .i64 1] 111) := ⟨_, rfl⟩
  have HM : Hid (MI w wA w.heap.size 4 Js.nilS Js.nilS 1 [] [] []) := by rw [hwA]; exact MI.start w 4
  have HWA := hide hwA
  clear e2 hl1 hs hwA h123 hbare
  by_cases hE : Tx.pre [125] s = true
  · have HR : Hid (Js.lstD 123 125 true .obj (n + 1) l = some (.obj .nil, s.drop 1)) := by
      show _ = _
      rw [HP.out, HL0.out, if_pos hE, Tx.aft_t hE]; rfl
    have hat : Tx.at_ s 0 = 125 := (Js.pre1 125 s).1 hE
    have hps : 0 < s.length := Tx.lt_of_at (by omega)
    have hne : ¬ s = [] := fun e => by rw [e] at hps; simp at hps
    have hemp : s.isEmpty = false := by cases s <;> simp_all
    obtain ⟨e0', e1', e2', -, e4', -⟩ := bs_tells s
    obtain ⟨s1, hs1⟩ : ∃ t, t = s.drop 1 := ⟨_, rfl⟩
    have hds : (bs s).extract 1 s.length = bs s1 := by rw [hs1]; exact e2' 1
    have hls1 : s1.length ≤ s.length := by rw [hs1]; simp
    rw [← hs1] at HR
    clear hE HL0 HP e2' hs1
    go_enter Tryz.func117, Tryz.ntmps117
    go_wp2_with (go_at_call 70; refine (HB.out _).mono ?_; rintro e w1 ⟨rfl, hw⟩; replace hw := hw.symm; subst hw)
    go_quiet (fail)
    go_wp2
    go_ret2
    have HM2 := (HM.out.ups ((Up.refl _).drewN nq))
    rw [HWA.out] at HM2
    exact ⟨_, s1, rfl, HM2.up, by omega, .inr ⟨_, w.heap.size, HR.out, rfl, ⟨Nat.le_refl _, HM2.row.lt⟩, MI.obj (acc := []) (ys := []) (ps := []) HM2 (Nat.zero_le _) rfl⟩⟩
  · have HT0 : Hid (Js.list0 123 125 (Js.mem true (Js.rd n)) l = Js.pre0 [] (Js.items0 125 (Js.mem true (Js.rd n)) (l.length + 1) s)) := by
      show _ = _
      rw [HL0.out, if_neg hE, Js.pre0_nil]
    obtain ⟨T, hT⟩ : ∃ T, T = Js.list0 123 125 (Js.mem true (Js.rd n)) l := ⟨_, rfl⟩
    rw [← hT] at HT0 HP
    have hat : ∀ x, Tx.at_ s 0 = x → x ≠ 125 := fun x hx e => hE ((Js.pre1 125 s).2 (by rw [hx, e]; rfl))
    obtain ⟨e0', e1', -, -, e4', -⟩ := bs_tells s
    clear hE HL0 hT
    by_cases hs0 : s = []
    · subst hs0
      have HE : Hid (T = none) := by
        show _ = _
        rw [HT0.out]
        rfl
      clear hat
      go_enter Tryz.func117, Tryz.ntmps117
      go_wp2_with (go_at_call 70; refine (HB.out _).mono ?_; rintro e w1 ⟨rfl, hw⟩; replace hw := hw.symm; subst hw)
      rw [← HWA.out]
      go_loopw [0] (fun sv wr => sv = .string (bs []) ∧ wr = wA) (fun _ _ => 0)
      case atStart => exact ⟨rfl, rfl⟩
      case round =>
        obtain ⟨rfl, rfl⟩ := hrel
        go_wp2_with (go_at_call 70; refine (bare_any [] _).mono ?_; rintro e w1 ⟨rfl, hw⟩; replace hw := hw.symm; subst hw)
        refine (dChars_any [] _ (by simp)).mono ?_
        rintro e w2 ⟨cv, c, r, ok, rfl, -, u2, pstr, hrl, hcl⟩
        obtain rfl : r = [] := List.length_eq_zero_iff.1 (by simpa using hrl)
        have hok : ok = false := by
          cases ok
          · rfl
          · have h1 : Js.str [] = none := rfl
            rw [h1] at pstr
            cases pstr
        subst hok
        have HU : Hid (Up w w2) := HM.out.up.trans u2
        clear u2 pstr
        go_wp2_with (go_at_call 70; refine (bare_any [] _).mono ?_; rintro e w1 ⟨rfl, hw⟩; replace hw := hw.symm; subst hw)
        go_ret2
        exact ⟨_, [], rfl, HU.out, by simp, .inl ⟨by rw [HP.out, HE.out]; rfl, rfl⟩⟩
    have hps : 0 < s.length := List.length_pos_iff.2 hs0
    have hemp : s.isEmpty = false := by cases s <;> simp_all
    have hb125 : (Tx.at_ s 0 == 125) = false := beq_eq_false_iff_ne.2 (hat _ rfl)
    clear hat
    go_enter Tryz.func117, Tryz.ntmps117
    go_wp2_with (go_at_call 70; refine (HB.out _).mono ?_; rintro e w1 ⟨rfl, hw⟩; replace hw := hw.symm; subst hw)
    rw [← HWA.out]
    go_loopw [0] (fun sv wr => ∃ (k dp : Nat) (acc : List (List Int × Js.V)) (t : List UInt8) (nv lv : Value) (ys : List Js.NC) (ps : List Nat), sv = .string (bs t) ∧ Hid (MI w wr w.heap.size 4 nv lv dp acc ys ps) ∧ Hid (ys.map Js.NC.c = acc.map Prod.fst) ∧ t.length ≤ k ∧ t.length + 1 ≤ l.length ∧ acc.length + t.length ≤ 6000 ∧ dp ≤ 6002 ∧ Hid (dp = (Js.ofM acc).deep + 1) ∧ Hid (T = Js.pre0 acc (Js.items0 125 (Js.mem true (Js.rd n)) (k + 1) t))) (fun sv _ => lenOf sv)
    case atStart => exact ⟨l.length, 1, [], _, Js.nilS, Js.nilS, [], [], rfl, HM, rfl, by omega, by omega, by simp; omega, by omega, rfl, HT0⟩
    case round =>
      obtain ⟨wo, hw⟩ : ∃ x, x = wr := ⟨_, rfl⟩
      subst hw
      obtain ⟨k, dp, acc, t, nv, lv, ys, ps, rfl, HI, HNE, hk, htl, hat6, hdp, HDP, HT⟩ := hrel
      obtain ⟨la, ln, lc, rfl⟩ : ∃ a n c, lv = .slice a n c := own_shape HI.out.ownL
      obtain rfl : ln = ps.length := by obtain ⟨a, c, e⟩ := own_len HI.out.ownL; cases e; rfl
      obtain ⟨na, nn, nc, rfl⟩ : ∃ a n c, nv = .slice a n c := own_shape HI.out.ownN
      obtain rfl : nn = ys.length := by obtain ⟨a, c, e⟩ := own_len HI.out.ownN; cases e; rfl
      have HPL : Hid (ps.length = acc.length) := (Js.Ok.kids HI.out.kids).1
      have hpl6 : ps.length ≤ 6000 := by rw [HPL.out]; omega
      have hyl6 : ys.length ≤ 6000 := by
        have h1 := congrArg List.length HNE.out
        rw [List.length_map, List.length_map] at h1
        rw [h1]; omega
      have HBT := hide (bare_any t)
      obtain ⟨tb, htb⟩ : ∃ x, x = Tx.bare t := ⟨_, rfl⟩
      have hltb : tb.length ≤ t.length := by rw [htb]; exact Tx.bare_le t
      have HTB := hide htb
      unfold Hid at HBT
      rw [← htb] at HBT
      replace HBT := hide HBT
      clear htb
      go_wp2_with (go_at_call 70; refine (HBT.out _).mono ?_; rintro e w1 ⟨rfl, hw⟩; replace hw := hw.symm; subst hw)
      refine (dChars_any tb _ (by omega)).mono ?_
      rintro e w2 ⟨cv, c, r, ok, rfl, hownc, u2, pstr, hrl, hcl⟩
      obtain ⟨ca, cn, cc, rfl⟩ : ∃ a n c, cv = .slice a n c := own_shape hownc
      have HBR := hide (bare_any r)
      obtain ⟨rb, hrb⟩ : ∃ x, x = Tx.bare r := ⟨_, rfl⟩
      have hlrb : rb.length ≤ r.length := by rw [hrb]; exact Tx.bare_le r
      have HNAME : Hid (Js.name t = if ok = true then (if Tx.pre [58] rb = true then some (c, Tx.aft [58] rb) else none) else none) := by
        show _ = _
        unfold Js.name
        rw [← HTB.out, pstr, hrb]
        cases ok <;> rfl
      have HNN : Hid (Js.name t = none → T = none) := fun h => by
        have := (Js.go_on0 (b := true) (a := (([] : List Int), Js.V.nil)) (t := []) (bad := false) HT.out (by rw [Js.mem_name, h]; rfl)).2 rfl
        simpa using this
      unfold Hid at HBR
      rw [← hrb] at HBR
      replace HBR := hide HBR
      have HU2 : Hid (Up w w2) := HI.out.up.trans u2
      have HOC := hide hownc
      replace u2 := hide u2
      obtain ⟨r0, r1, r2, -, r4, -⟩ := bs_tells rb
      clear pstr hrb hownc
      cases ok
      · have HE : Hid (T = none) := HNN.out (by rw [HNAME.out]; rfl)
        clear r2
        go_wp2_with (go_at_call 70; refine (HBR.out _).mono ?_; rintro e w1 ⟨rfl, hw⟩; replace hw := hw.symm; subst hw)
        go_ret2
        exact ⟨_, tb, rfl, HU2.out, by omega, .inl ⟨by rw [HP.out, HE.out]; rfl, rfl⟩⟩
      by_cases hrb0 : rb = []
      · subst hrb0
        have HE : Hid (T = none) := HNN.out (by rw [HNAME.out]; rfl)
        clear r2
        go_wp2_with (go_at_call 70; refine (HBR.out _).mono ?_; rintro e w1 ⟨rfl, hw⟩; replace hw := hw.symm; subst hw)
        go_ret2
        exact ⟨_, tb, rfl, HU2.out, by omega, .inl ⟨by rw [HP.out, HE.out]; rfl, rfl⟩⟩
      have hrp : 0 < rb.length := List.length_pos_iff.2 hrb0
      have hremp : rb.isEmpty = false := by cases rb <;> simp_all
      by_cases h58 : Tx.at_ rb 0 = 58
      case neg =>
        have b58 : (Tx.at_ rb 0 != 58) = true := bne_iff_ne.2 h58
        have HE : Hid (T = none) := HNN.out (by rw [HNAME.out, if_pos rfl, if_neg (fun e => h58 ((Js.pre1 58 _).1 e))])
        clear h58 r2
        go_wp2_with (go_at_call 70; refine (HBR.out _).mono ?_; rintro e w1 ⟨rfl, hw⟩; replace hw := hw.symm; subst hw)
        go_ret2
        exact ⟨_, tb, rfl, HU2.out, by omega, .inl ⟨by rw [HP.out, HE.out]; rfl, rfl⟩⟩
      have b58 : (Tx.at_ rb 0 != 58) = false := by rw [h58]; rfl
      obtain ⟨t3, ht3⟩ : ∃ x, x = rb.drop 1 := ⟨_, rfl⟩
      have hd3 : (bs rb).extract 1 rb.length = bs t3 := by rw [ht3]; exact r2 1
      have hlt3 : t3.length + 1 = rb.length := by rw [ht3, List.length_drop]; omega
      have HNM : Hid (Js.name t = some (c, t3)) := by
        have hp : Tx.pre [58] rb = true := (Js.pre1 58 _).2 h58
        show _ = _
        rw [HNAME.out, if_pos rfl, if_pos hp, Tx.aft_t hp, ht3]; rfl
      have h2 := HI.out.ups u2.out
      have c3 := h2.row.cell (i := 3) rfl
      have HOA := hide (h2.ownN.alloc (.cells #[.slice ca cn cc] 24))
      have hrbn : Hid (ys.length ≤ 1073741824) := by show _ ≤ _; omega
      have hsz2 := hide h2.up.size
      have H2 := hide h2
      clear h58 r2 ht3 h2 HNAME HNN
      go_wp2_with (first
        | (go_at_call 70; refine (HBR.out _).mono ?_; rintro e w1 ⟨rfl, hw⟩; replace hw := hw.symm; subst hw)
        | (at_builtin; refine wpList_app el_names rfl (.tmp 61) (.tmp 63) rfl w.heap.size _ _ _ (by rfl) HOA.out w2.heap.size [.slice ca cn cc] (by rfl) rfl (heap_alloc_new w2 _) (by intro u hu; simp at hu; subst hu; rfl) hrbn.out (by simp; have := hsz2.out; omega) ?_; intro g3 cap3 w5n hown5 hg5 hat5 hlt5; have H3 := hide (MI.name HI.out u2.out HOC.out hcl hown5 hg5 hat5 hlt5); have row5 := (Fr.of_grown hg5).row (H2.out.ups ((Up.refl w2).alloc (.cells #[.slice ca cn cc] 24))).row (own_row_ne (H2.out.ups ((Up.refl w2).alloc (.cells #[.slice ca cn cc] 24))).ownN (H2.out.ups ((Up.refl w2).alloc (.cells #[.slice ca cn cc] 24))).row (by decide)); have rc3 := row5.cell (i := 3) rfl; have rf3 := row5.frozen 3; clear hown5 hg5 hat5 hlt5 row5)
        | (go_at_call 76; fail))
      obtain ⟨wN, hwN⟩ : ∃ W, W = w5n.setCell ⟨w.heap.size, 3, none⟩ (.slice (some ⟨g3, 0, none⟩) (ys.length + 1) cap3) := ⟨_, rfl⟩
      rw [← hwN]
      replace H3 : Hid (MI w wN w.heap.size 4 (.slice (some ⟨g3, 0, none⟩) (ys.length + 1) cap3) (.slice la ps.length lc) dp acc (ys ++ [⟨.slice ca cn cc, c⟩]) ps) := by rw [hwN]; exact H3.out
      clear hwN rc3 rf3 c3 HI
      have HI := H3
      clear H3
      refine (IH.out t3 (by omega) (by omega) _).mono ?_
      rintro e w4 ⟨pv, t4, rfl, u4, ht4, hcase⟩
      rcases hcase with ⟨hnone, rfl⟩ | ⟨v, b, hsome, rfl, hb, hok⟩
      · have HE : Hid (T = none) := by
          have := (Js.go_on0 (b := true) (a := (([] : List Int), Js.V.nil)) (t := []) (bad := false) HT.out (by rw [Js.mem_name, HNM.out]; simp [hnone])).2 rfl
          simpa [Hid] using this
        have HU : Hid (Up w w4) := HI.out.up.trans u4
        clear hnone u4 HT
        go_wp2
        go_ret2
        exact ⟨_, t3, rfl, HU.out, by omega, .inl ⟨by rw [HP.out, HE.out]; rfl, rfl⟩⟩
      · obtain ⟨hg1, hg2⟩ := Js.go_on0 (b := false) (a := (c, v)) (t := t4) (bad := false) HT.out (by rw [Js.mem_name, HNM.out]; simp [hsome])
        have hlt4 : t4.length + 1 ≤ t3.length := Js.rd_lt _ _ _ _ hsome
        obtain ⟨kd, sx, xcv, xnv, xlv, hrowx⟩ := (hok.one (Js.rd_val hsome)).2
        obtain ⟨dv, hdv⟩ : ∃ d, d = v.deep := ⟨_, rfl⟩
        have hdv6 : dv ≤ 6001 := by rw [hdv]; have := Js.rd_deep hsome; omega
        rw [← hdv] at hrowx
        have HDV := hide hdv
        have HIV := hide (Js.rd_val hsome)
        have HB4 := hide (bare_any t4)
        obtain ⟨s4, hs4⟩ : ∃ x, x = Tx.bare t4 := ⟨_, rfl⟩
        have hls4 : s4.length ≤ t4.length := by rw [hs4]; exact Tx.bare_le t4
        rw [← hs4] at hg1 hg2
        unfold Hid at HB4
        rw [← hs4] at HB4
        replace HB4 := hide HB4
        replace hg1 := hide hg1
        replace hg2 := hide hg2
        have h4 := HI.out.ups u4
        have c4 := h4.row.cell (i := 4) rfl
        have HOA := hide (h4.ownL.alloc (.cells #[.pointer (some ⟨b, 0, none⟩)] 105))
        have hrb : Hid (ps.length ≤ 1073741824) := by show _ ≤ _; omega
        have hsz4 := hide h4.up.size
        have HOK := hide hok
        have HBB := hide hb
        have HRX := hide hrowx
        have H4 := hide h4
        have HU4 := hide u4
        have hbne : b ≠ w.heap.size := by
          have h1 := HI.out.row.lt
          omega
        have hbne2 : w.heap.size ≠ b := fun e => hbne e.symm
        have HLB : Hid ((Value.slice la ps.length lc).ownBlock ≠ some b) := fun e => by
          have h1 := (own_lt HI.out.ownL e).2
          omega
        clear hsome hdv hs4 HT hok h4 u4 hrowx
        go_wp2_with (at_builtin; refine wpList_app el_vals rfl (.tmp 82) (.tmp 84) rfl w.heap.size _ _ _ (by rfl) HOA.out w4.heap.size [.pointer (some ⟨b, 0, none⟩)] (by rfl) rfl (heap_alloc_new w4 _) (by intro u hu; simp at hu; subst hu; rfl) hrb.out (by simp; have := hsz4.out; omega) ?_; intro g cap w5 hown5 hg5 hat5 hlt5; have H6 := hide (MI.kid (n := c) HI.out HU4.out HOK.out HBB.out HIV.out hown5 hg5 hat5 hlt5); have row5 := (Fr.of_grown hg5).row (H4.out.ups ((Up.refl w4).alloc (.cells #[.pointer (some ⟨b, 0, none⟩)] 105))).row (own_row_ne (H4.out.ups ((Up.refl w4).alloc (.cells #[.pointer (some ⟨b, 0, none⟩)] 105))).ownL (H4.out.ups ((Up.refl w4).alloc (.cells #[.pointer (some ⟨b, 0, none⟩)] 105))).row (by decide)); have rc4 := row5.cell (i := 4) rfl; have rf4 := row5.frozen 4; have rc5 := row5.cell (i := 5) rfl; have rf5 := row5.frozen 5; have rx5 := ((HRX.out.alloc (.cells #[.pointer (some ⟨b, 0, none⟩)] 105)).grown hg5 HLB.out).cell (i := 5) rfl; clear hown5 hg5 hat5 hlt5 row5)
        have HDS : Hid ((Js.ofM (acc ++ [(c, v)])).deep + 1 = if dp < dv + 1 then dv + 1 else dp) := by
          show _ = _
          rw [Js.deep_snoc, HDP.out, HDV.out]
          have h1 := Nat.le_max_left (Js.ofM acc).deep v.deep
          have h2 := Nat.le_max_right (Js.ofM acc).deep v.deep
          have h3 : Nat.max (Js.ofM acc).deep v.deep = (Js.ofM acc).deep ∨ Nat.max (Js.ofM acc).deep v.deep = v.deep := by
            rcases Nat.le_total (Js.ofM acc).deep v.deep with h | h
            · exact .inr (Nat.max_eq_right h)
            · exact .inl (Nat.max_eq_left h)
          split <;> (rcases h3 with h3 | h3 <;> simp only [h3] at * <;> omega)
        obtain ⟨e40, e41, e42, -, e44, -⟩ := bs_tells s4
        by_cases hgt : dp < dv + 1
        · rw [if_pos hgt] at HDS
          have hgi : (dp : Int) < (dv : Int) + 1 := by omega
          clear hgt
          go_quiet (fail)
          go_wp2_with fail
          refine (HB4.out _).mono ?_
          rintro e w7 ⟨rfl, hw7⟩
          have H7 : Hid (MI w w7 w.heap.size 4 (.slice (some ⟨g3, 0, none⟩) (ys.length + 1) cap3) (.slice (some ⟨g, 0, none⟩) (ps.length + 1) cap) (dv + 1) (acc ++ [(c, v)]) (ys ++ [⟨.slice ca cn cc, c⟩]) (ps ++ [b])) := by
            rw [hw7]
            exact (H6.out.ups ((Up.refl _).drewN nq)).deep (dv + 1)
          obtain ⟨D7, hD7e⟩ : ∃ D, D = dv + 1 := ⟨_, rfl⟩
          have hD7 : D7 ≤ 6002 := by omega
          rw [← hD7e] at H7 HDS
          have HD7 : Hid (D7 = (Js.ofM (acc ++ [(c, v)])).deep + 1) := HDS.out.symm
          clear hw7 hD7e rc4 rf4 rc5 rf5 rx5 hgi
          have hw7s : lenOf (.string (bs t)) = t.length := by simp [lenOf, bs_size]
          by_cases h4n : s4 = []
          · subst h4n
            have HE : Hid (T = none) := hg2.out rfl
            clear e42
            go_wp2
            go_ret2
            exact ⟨_, [], rfl, H7.out.up, by simp, .inl ⟨by rw [HP.out, HE.out]; rfl, rfl⟩⟩
          · have hps4 : 0 < s4.length := List.length_pos_iff.2 h4n
            have hemp4 : s4.isEmpty = false := by cases s4 <;> simp_all
            obtain ⟨y, hy⟩ : ∃ y, y = Tx.at_ s4 0 := ⟨_, rfl⟩
            have hy1 : Tx.at_ s4 0 = y := hy.symm
            have HY := hide hy1
            obtain ⟨s5, hs5⟩ : ∃ x, x = s4.drop 1 := ⟨_, rfl⟩
            have hd5 : (bs s4).extract 1 s4.length = bs s5 := by rw [hs5]; exact e42 1
            have hl5 : s5.length + 1 = s4.length := by rw [hs5, List.length_drop]; omega
            have HS5 := hide hs5
            clear hy hs5 e42
            by_cases h44 : y = 44
            · have hp : Tx.pre [44] s4 = true := (Js.pre1 44 s4).2 (by rw [HY.out, h44]; rfl)
              have HG : Hid (T = Js.pre0 (acc ++ [(c, v)]) (Js.items0 125 (Js.mem true (Js.rd n)) k s5)) := by
                have := hg1.out (by rw [hp]; rfl)
                rw [Tx.aft_t hp] at this
                rw [HS5.out]
                exact this
              subst h44
              clear hp
              go_wp2
              go_roundw
              case rel =>
                refine ⟨k - 1, D7, acc ++ [(c, v)], s5, _, _, ys ++ [⟨.slice ca cn cc, c⟩], ps ++ [b], by simp [hd5], H7, by show _ = _; rw [List.map_append, List.map_append, HNE.out]; rfl, by omega, by omega, by simp; omega, hD7, HD7, ?_⟩
                show _ = _
                rw [show k - 1 + 1 = k by omega]
                exact HG.out
              case measure => rw [hw7s]; simp [lenOf, hd5, bs_size]; omega
            · have b44 : (y != 44) = true := bne_iff_ne.2 h44
              have hp44 : Tx.pre [44] s4 = false := Js.pre1f (by rw [HY.out]; exact h44)
              have HG := hide (hg2.out (by rw [hp44]; rfl))
              clear h44 hp44
              by_cases h125 : y = 125
              · have hp : Tx.pre [125] s4 = true := (Js.pre1 125 s4).2 (by rw [HY.out, h125]; rfl)
                have HE : Hid (T = some (acc ++ [(c, v)], s5)) := by
                  have := HG.out
                  rw [hp, Tx.aft_t hp] at this
                  rw [HS5.out]
                  exact this
                subst h125
                clear hp
                go_wp2
                go_ret2
                exact ⟨_, s5, rfl, H7.out.up, by omega, .inr ⟨.obj (Js.ofM (acc ++ [(c, v)])), w.heap.size, by rw [HP.out, HE.out]; rfl, rfl, ⟨Nat.le_refl _, H7.out.row.lt⟩, MI.obj (HD7.out ▸ H7.out) (by rw [List.length_append, HPL.out]; simp; omega) (by rw [List.map_append, List.map_append, HNE.out]; rfl)⟩⟩
              · have b125 : (y != 125) = true := bne_iff_ne.2 h125
                have hp : Tx.pre [125] s4 = false := Js.pre1f (by rw [HY.out]; exact h125)
                have HE : Hid (T = none) := by
                  have := HG.out
                  rw [hp] at this
                  exact this
                clear h125 hp
                go_wp2
                go_ret2
                exact ⟨_, s4, rfl, H7.out.up, by omega, .inl ⟨by rw [HP.out, HE.out]; rfl, rfl⟩⟩
        · rw [if_neg hgt] at HDS
          have hgi : ¬ (dp : Int) < (dv : Int) + 1 := by omega
          clear hgt
          go_quiet (fail)
          go_wp2_with fail
          refine (HB4.out _).mono ?_
          rintro e w7 ⟨rfl, hw7⟩
          have H7 : Hid (MI w w7 w.heap.size 4 (.slice (some ⟨g3, 0, none⟩) (ys.length + 1) cap3) (.slice (some ⟨g, 0, none⟩) (ps.length + 1) cap) dp (acc ++ [(c, v)]) (ys ++ [⟨.slice ca cn cc, c⟩]) (ps ++ [b])) := by
            rw [hw7]
            exact H6.out.ups ((Up.refl _).drewN nq)
          obtain ⟨D7, hD7e⟩ : ∃ D, D = dp := ⟨_, rfl⟩
          have hD7 : D7 ≤ 6002 := by omega
          rw [← hD7e] at H7 HDS
          have HD7 : Hid (D7 = (Js.ofM (acc ++ [(c, v)])).deep + 1) := HDS.out.symm
          clear hw7 hD7e rc4 rf4 rc5 rf5 rx5 hgi
          have hw7s : lenOf (.string (bs t)) = t.length := by simp [lenOf, bs_size]
          by_cases h4n : s4 = []
          · subst h4n
            have HE : Hid (T = none) := hg2.out rfl
            clear e42
            go_wp2
            go_ret2
            exact ⟨_, [], rfl, H7.out.up, by simp, .inl ⟨by rw [HP.out, HE.out]; rfl, rfl⟩⟩
          · have hps4 : 0 < s4.length := List.length_pos_iff.2 h4n
            have hemp4 : s4.isEmpty = false := by cases s4 <;> simp_all
            obtain ⟨y, hy⟩ : ∃ y, y = Tx.at_ s4 0 := ⟨_, rfl⟩
            have hy1 : Tx.at_ s4 0 = y := hy.symm
            have HY := hide hy1
            obtain ⟨s5, hs5⟩ : ∃ x, x = s4.drop 1 := ⟨_, rfl⟩
            have hd5 : (bs s4).extract 1 s4.length = bs s5 := by rw [hs5]; exact e42 1
            have hl5 : s5.length + 1 = s4.length := by rw [hs5, List.length_drop]; omega
            have HS5 := hide hs5
            clear hy hs5 e42
            by_cases h44 : y = 44
            · have hp : Tx.pre [44] s4 = true := (Js.pre1 44 s4).2 (by rw [HY.out, h44]; rfl)
              have HG : Hid (T = Js.pre0 (acc ++ [(c, v)]) (Js.items0 125 (Js.mem true (Js.rd n)) k s5)) := by
                have := hg1.out (by rw [hp]; rfl)
                rw [Tx.aft_t hp] at this
                rw [HS5.out]
                exact this
              subst h44
              clear hp
              go_wp2
              go_roundw
              case rel =>
                refine ⟨k - 1, D7, acc ++ [(c, v)], s5, _, _, ys ++ [⟨.slice ca cn cc, c⟩], ps ++ [b], by simp [hd5], H7, by show _ = _; rw [List.map_append, List.map_append, HNE.out]; rfl, by omega, by omega, by simp; omega, hD7, HD7, ?_⟩
                show _ = _
                rw [show k - 1 + 1 = k by omega]
                exact HG.out
              case measure => rw [hw7s]; simp [lenOf, hd5, bs_size]; omega
            · have b44 : (y != 44) = true := bne_iff_ne.2 h44
              have hp44 : Tx.pre [44] s4 = false := Js.pre1f (by rw [HY.out]; exact h44)
              have HG := hide (hg2.out (by rw [hp44]; rfl))
              clear h44 hp44
              by_cases h125 : y = 125
              · have hp : Tx.pre [125] s4 = true := (Js.pre1 125 s4).2 (by rw [HY.out, h125]; rfl)
                have HE : Hid (T = some (acc ++ [(c, v)], s5)) := by
                  have := HG.out
                  rw [hp, Tx.aft_t hp] at this
                  rw [HS5.out]
                  exact this
                subst h125
                clear hp
                go_wp2
                go_ret2
                exact ⟨_, s5, rfl, H7.out.up, by omega, .inr ⟨.obj (Js.ofM (acc ++ [(c, v)])), w.heap.size, by rw [HP.out, HE.out]; rfl, rfl, ⟨Nat.le_refl _, H7.out.row.lt⟩, MI.obj (HD7.out ▸ H7.out) (by rw [List.length_append, HPL.out]; simp; omega) (by rw [List.map_append, List.map_append, HNE.out]; rfl)⟩⟩
              · have b125 : (y != 125) = true := bne_iff_ne.2 h125
                have hp : Tx.pre [125] s4 = false := Js.pre1f (by rw [HY.out]; exact h125)
                have HE : Hid (T = none) := by
                  have := HG.out
                  rw [hp] at this
                  exact this
                clear h125 hp
                go_wp2
                go_ret2
                exact ⟨_, s4, rfl, H7.out.up, by omega, .inl ⟨by rw [HP.out, HE.out]; rfl, rfl⟩⟩
end Go.Proofs.YtcclepohmhdpbaaGreatDoor

/- THE DOCUMENT's JSON: values. -/
namespace Go.Proofs.YtcclepohmhdpbaaGreatDoor
set_option linter.all false
open Go.RowKit Go.Deep

namespace Js
def wd : Nat → List UInt8
  | 0 => tru
  | 1 => fal
  | _ => nul
theorem rd_word {n i : Nat} {l : List UInt8} (hp : Tx.pre (wd i) (Tx.bare l) = true) : rd n l = some (.word, (Tx.bare l).drop (wd i).length) := by
  have key : ∀ (c : UInt8) (k : List UInt8), (c :: k = tru ∨ c :: k = fal ∨ c :: k = nul) → (c.toNat : Int) ≠ 91 → (c.toNat : Int) ≠ 123 → Tx.pre (c :: k) (Tx.bare l) = true → rd n l = some (.word, (Tx.bare l).drop (c :: k).length) := by
    intro c k hk h1 h2 hp
    have ha := word_first hp
    rw [rd_eq, if_neg (by omega), if_neg (by omega), leaf_word c k hk ha, if_pos hp, Tx.aft_t hp]
  match i, hp with
  | 0, hp => exact key 116 _ (.inl rfl) (by decide) (by decide) hp
  | 1, hp => exact key 102 _ (.inr (.inl rfl)) (by decide) (by decide) hp
  | _ + 2, hp => exact key 110 _ (.inr (.inr rfl)) (by decide) (by decide) hp
theorem leaf_no {s : List UInt8} (h : ∀ j, j < 3 → Tx.pre (wd j) s = false) : leaf s = if Tx.at_ s 0 = 34 then (str s).map fun x => (.txt x.1, x.2) else if Tx.num false s = 0 then none else some (.num (s.take (Tx.num false s)), s.drop (Tx.num false s)) := by
  have h0 : Tx.pre tru s = false := h 0 (by omega)
  have h1 : Tx.pre fal s = false := h 1 (by omega)
  have h2 : Tx.pre nul s = false := h 2 (by omega)
  unfold leaf
  rw [h0, h1, h2]
  rfl
theorem wd_len (i : Nat) : (wd i).length ≤ 5 := by
  match i with
  | 0 => decide
  | 1 => decide
  | _ + 2 => show nul.length ≤ 5; decide
end Js

theorem ok_word {w wB : World} (hu : Up w wB) : (w.heap.size ≤ wB.heap.size ∧ wB.heap.size < (wB.alloc (.cells #[.int .i64 0, .string ⟨#[]⟩, .slice none 0 0, .slice none 0 0, .slice none 0 0, .int .i64 0] 111)).heap.size) ∧ Js.Ok (fun b => w.heap.size ≤ b ∧ b < (wB.alloc (.cells #[.int .i64 0, .string ⟨#[]⟩, .slice none 0 0, .slice none 0 0, .slice none 0 0, .int .i64 0] 111)).heap.size) (wB.alloc (.cells #[.int .i64 0, .string ⟨#[]⟩, .slice none 0 0, .slice none 0 0, .slice none 0 0, .int .i64 0] 111)) .word [wB.heap.size] := by
  have h := VRow.new wB (Js.vcells 0 [] Js.nilS Js.nilS Js.nilS 0) 111
  have hk : w.heap.size ≤ wB.heap.size ∧ wB.heap.size < (wB.alloc (.cells #[.int .i64 0, .string ⟨#[]⟩, .slice none 0 0, .slice none 0 0, .slice none 0 0, .int .i64 0] 111)).heap.size := ⟨hu.size, h.lt⟩
  exact ⟨hk, wB.heap.size, rfl, hk, h⟩
theorem ok_num {w wB : World} {s : List UInt8} (hu : Up w wB) (hs : Du.Shape s) (hl : s.length ≤ 6000) : (w.heap.size ≤ wB.heap.size ∧ wB.heap.size < (wB.alloc (.cells #[.int .i64 1, .string (bs s), .slice none 0 0, .slice none 0 0, .slice none 0 0, .int .i64 0] 111)).heap.size) ∧ Js.Ok (fun b => w.heap.size ≤ b ∧ b < (wB.alloc (.cells #[.int .i64 1, .string (bs s), .slice none 0 0, .slice none 0 0, .slice none 0 0, .int .i64 0] 111)).heap.size) (wB.alloc (.cells #[.int .i64 1, .string (bs s), .slice none 0 0, .slice none 0 0, .slice none 0 0, .int .i64 0] 111)) (.num s) [wB.heap.size] := by
  have h := VRow.new wB (Js.vcells 1 s Js.nilS Js.nilS Js.nilS 0) 111
  have hk : w.heap.size ≤ wB.heap.size ∧ wB.heap.size < (wB.alloc (.cells #[.int .i64 1, .string (bs s), .slice none 0 0, .slice none 0 0, .slice none 0 0, .int .i64 0] 111)).heap.size := ⟨hu.size, h.lt⟩
  exact ⟨hk, wB.heap.size, rfl, hk, h, hs, hl⟩
theorem ok_txt {w wB : World} {cv : Value} {c : List Int} (hu : Up w wB) (hc : wB.ownsRow w.heap.size 3 1 cv c.length (Js.ints c)) (hl : c.length ≤ 6000) : (w.heap.size ≤ wB.heap.size ∧ wB.heap.size < (wB.alloc (.cells #[.int .i64 2, .string ⟨#[]⟩, cv, .slice none 0 0, .slice none 0 0, .int .i64 0] 111)).heap.size) ∧ Js.Ok (fun b => w.heap.size ≤ b ∧ b < (wB.alloc (.cells #[.int .i64 2, .string ⟨#[]⟩, cv, .slice none 0 0, .slice none 0 0, .int .i64 0] 111)).heap.size) (wB.alloc (.cells #[.int .i64 2, .string ⟨#[]⟩, cv, .slice none 0 0, .slice none 0 0, .int .i64 0] 111)) (.txt c) [wB.heap.size] := by
  have h := VRow.new wB (Js.vcells 2 [] cv Js.nilS Js.nilS 0) 111
  have hk : w.heap.size ≤ wB.heap.size ∧ wB.heap.size < (wB.alloc (.cells #[.int .i64 2, .string ⟨#[]⟩, cv, .slice none 0 0, .slice none 0 0, .int .i64 0] 111)).heap.size := ⟨hu.size, h.lt⟩
  have hA := hc.alloc (.cells #[.int .i64 2, .string ⟨#[]⟩, cv, .slice none 0 0, .slice none 0 0, .int .i64 0] 111)
  exact ⟨hk, wB.heap.size, cv, rfl, hk, h, own_base hA (Nat.zero_le _), fun g hg => own_lt hA hg, hl⟩

set_option maxRecDepth 100000 in
set_option maxHeartbeats 16000000 in
theorem dRead_of (n : Nat) (hn : n ≤ 6000)
    (HML : ∀ (l : List UInt8), Tx.at_ l 0 = 91 → Tx.bare l = l → l.length ≤ n → l.length ≤ 6000 → ∀ w, Calls Tryz.prog 117 #[.string (bs l), .int .i64 3, .int .u8 93] w (DRdPost (Js.lstD 91 93 false .lst n l) l w))
    (HMO : ∀ (l : List UInt8), Tx.at_ l 0 = 123 → Tx.bare l = l → l.length ≤ n → l.length ≤ 6000 → ∀ w, Calls Tryz.prog 117 #[.string (bs l), .int .i64 4, .int .u8 125] w (DRdPost (Js.lstD 123 125 true .obj n l) l w)) : DReadAt n := by
  intro l hln hl w
  replace HML := hide HML
  replace HMO := hide HMO
  have HB := hide (fun w => bare_any l w)
  have HW := hide (fun i h => Js.rd_word (n := n) (i := i) (l := l) h)
  have HRD := hide (Js.rd_eq n l)
  have HBB := hide (Tx.bare_bare l)
  have HL1 := hide (Js.lstD_bare 91 93 false .lst n l)
  have HL2 := hide (Js.lstD_bare 123 125 true .obj n l)
  obtain ⟨s, hs⟩ : ∃ s, s = Tx.bare l := ⟨_, rfl⟩
  have hsl : s.length ≤ l.length := by rw [hs]; exact Tx.bare_le l
  rw [← hs] at HB HW HRD HBB HL1 HL2
  clear hs
  obtain ⟨e0, e1, e2, e3, e4, -⟩ := bs_tells s
  obtain ⟨wA, hwA⟩ : ∃ W, W = w.alloc (.cells #[.string ⟨#[116, 114, 117, 101]⟩, .string ⟨#[102, 97, 108, 115, 101]⟩, .string ⟨#[110, 117, 108, 108]⟩] 9) := ⟨_, rfl⟩
  have HU : Hid (Up w wA) := by rw [hwA]; exact (Up.refl w).alloc _
  have HM : Hid (∀ i : Nat, i < 3 → wA.cell? ⟨w.heap.size, i, none⟩ = some (.string (bs (Js.wd i)))) := by
    intro i hi
    rw [hwA]
    have := VRow.new w [.string (bs Js.tru), .string (bs Js.fal), .string (bs Js.nul)] 9
    refine VRow.cell this ?_
    match i, hi with
    | 0, _ => rfl
    | 1, _ => rfl
    | 2, _ => rfl
  have HWA := hide hwA
  clear hwA
  go_enter Tryz.func76, Tryz.ntmps76
  go_wp2_with (go_at_call 70; refine (HB.out _).mono ?_; rintro e w1 ⟨rfl, hw⟩; replace hw := hw.symm; subst hw)
  rw [← HWA.out]
  go_loopw [5] (fun iv wr => ∃ i : Nat, i ≤ 3 ∧ iv = .int .i64 i ∧ Hid (∀ j, j < i → Tx.pre (Js.wd j) s = false) ∧ ∃ q, wr = wA.drewN q) (fun iv _ => 3 - (intOf iv).toNat)
  case atStart => exact ⟨0, by omega, rfl, fun j hj => by omega, 0, rfl⟩
  case round =>
    obtain ⟨i, hi, rfl, HN, q, rfl⟩ := hrel
    by_cases hlt : i < 3
    · have hcell := HM.out i hlt
      obtain ⟨k, hk⟩ : ∃ k, k = Js.wd i := ⟨_, rfl⟩
      have hkl : k.length ≤ 5 := by rw [hk]; exact Js.wd_len i
      rw [← hk] at hcell
      have HK := hide hk
      have k0 := bs_size k
      have k4 := bs_toList k
      have k3 : (bs (s.take k.length)).toList = s.take k.length := bs_toList _
      clear hk
      by_cases hlen : s.length < k.length
      · have HP : Hid (Tx.pre (Js.wd i) s = false) := by
          show _ = _
          rw [← HK.out]
          unfold Tx.pre
          refine beq_eq_false_iff_ne.2 fun e => ?_
          have := congrArg List.length e
          simp at this
          omega
        have hd : decide (k.length ≤ s.length) = false := by simp; omega
        go_wp2
        go_quiet (fail)
        go_wp2
        go_roundw
        case rel =>
          refine ⟨i + 1, by omega, by go_num, fun j hj => ?_, _, rfl⟩
          by_cases hji : j < i
          · exact HN.out j hji
          · obtain rfl : j = i := by omega
            exact HP.out
        case measure => simp [intOf]; omega
      · have hd : decide (k.length ≤ s.length) = true := by simp; omega
        by_cases hp : (s.take k.length == k) = true
        · have HE : Hid (Js.rd n l = some (.word, s.drop k.length)) := by
            have := HW.out i (by rw [← HK.out]; exact hp)
            rw [← HK.out] at this
            exact this
          have hkd : (bs s).extract k.length s.length = bs (s.drop k.length) := e2 k.length
          go_wp2
          go_quiet (fail)
          go_wp2
          go_region_with (fail)
          all_goals
            go_wp2
            go_ret2
            exact ⟨_, s.drop k.length, rfl, (HU.out.drewN _).alloc _, by rw [List.length_drop]; omega, .inr ⟨.word, wA.heap.size, HE.out, rfl, ok_word (wB := wA.drewN _) (HU.out.drewN _)⟩⟩
        · have hp : (s.take k.length == k) = false := by simpa using hp
          have HP : Hid (Tx.pre (Js.wd i) s = false) := by
            show _ = _
            rw [← HK.out]
            exact hp
          go_wp2
          go_quiet (fail)
          go_wp2
          go_roundw
          case rel =>
            refine ⟨i + 1, by omega, by go_num, fun j hj => ?_, _, rfl⟩
            by_cases hji : j < i
            · exact HN.out j hji
            · obtain rfl : j = i := by omega
              exact HP.out
          case measure => simp [intOf]; omega
    · obtain rfl : i = 3 := by omega
      have HLF := hide (Js.leaf_no HN.out)
      have HU2 : Hid (Up w (wA.drewN q)) := HU.out.drewN q
      by_cases hs0 : s = []
      · subst hs0
        have HE : Hid (Js.rd n l = none) := by
          show _ = _
          rw [HRD.out]; rfl
        clear e2 e3
        go_wp2
        go_ret2
        exact ⟨_, [], rfl, HU2.out, by simp, .inl ⟨HE.out, rfl⟩⟩
      have hps : 0 < s.length := List.length_pos_iff.2 hs0
      have hemp : s.isEmpty = false := by cases s <;> simp_all
      obtain ⟨x, hx⟩ : ∃ x, x = Tx.at_ s 0 := ⟨_, rfl⟩
      have hx1 : Tx.at_ s 0 = x := hx.symm
      have HX := hide hx1
      clear hx
      by_cases c34 : x = 34
      · have HE : Hid (Js.rd n l = (Js.str s).map fun y => (Js.V.txt y.1, y.2)) := by
          show _ = _
          rw [HRD.out, if_neg (by rw [HX.out]; omega), if_neg (by rw [HX.out]; omega), HLF.out, if_pos (by rw [HX.out]; exact c34)]
        subst c34
        clear e2 e3
        go_wp2_with fail
        refine (dChars_any s _ (by omega)).mono ?_
        rintro e w2 ⟨cv, c, r, ok, rfl, hownc, u2, pstr, hrl, hcl⟩
        obtain ⟨ca, cn, cc, rfl⟩ : ∃ a n c, cv = .slice a n c := own_shape hownc
        have HU3 : Hid (Up w w2) := HU2.out.trans u2
        have HOC : Hid (w2.ownsRow w.heap.size 3 1 (.slice ca cn cc) c.length (Js.ints c)) := own_base hownc HU2.out.size
        have HST := hide pstr
        clear hownc u2 pstr
        cases ok
        · go_wp2
          go_ret2
          exact ⟨_, s, rfl, HU3.out, by omega, .inl ⟨by rw [HE.out, HST.out]; rfl, rfl⟩⟩
        · go_wp2
          go_ret2
          exact ⟨_, r, rfl, HU3.out.alloc _, by omega, .inr ⟨.txt c, w2.heap.size, by rw [HE.out, HST.out]; rfl, rfl, ok_txt HU3.out HOC.out hcl⟩⟩
      have b34 := beq_eq_false_iff_ne.2 c34
      by_cases c91 : x = 91
      · have HE : Hid (Js.rd n l = Js.lstD 91 93 false .lst n s) := by
          show _ = _
          rw [HRD.out, if_pos (by rw [HX.out]; exact c91), HL1.out]
        have HMC := hide (fun w => HML.out s (by rw [HX.out]; exact c91) HBB.out (by omega) (by omega) w)
        subst c91
        clear e2 e3 c34
        go_wp2_with fail
        refine (HMC.out _).mono ?_
        rintro e w2 ⟨pv, t, rfl, u2, htl, hcase⟩
        have HU3 : Hid (Up w w2) := HU2.out.trans u2
        have hsz := HU2.out.size
        rcases hcase with ⟨hnone, rfl⟩ | ⟨v, b, hsome, rfl, hb, hok⟩
        · have HC := hide hnone
          clear hnone u2
          go_wp2
          go_ret2
          exact ⟨_, t, rfl, HU3.out, by omega, .inl ⟨by rw [HE.out, HC.out], rfl⟩⟩
        · have HC := hide hsome
          have HOK := hide hok
          have HB2 := hide hb
          clear hsome hok u2 hb
          go_wp2
          go_ret2
          exact ⟨_, t, rfl, HU3.out, by omega, .inr ⟨v, b, by rw [HE.out, HC.out], rfl, ⟨Nat.le_trans hsz HB2.out.1, HB2.out.2⟩, Js.Ok.of (fun _ _ => rfl) (fun b hb => ⟨Nat.le_trans hsz hb.1, hb.2⟩) HOK.out⟩⟩
      have b91 := beq_eq_false_iff_ne.2 c91
      by_cases c123 : x = 123
      · have HE : Hid (Js.rd n l = Js.lstD 123 125 true .obj n s) := by
          show _ = _
          rw [HRD.out, if_neg (by rw [HX.out]; exact c91), if_pos (by rw [HX.out]; exact c123), HL2.out]
        have HMC := hide (fun w => HMO.out s (by rw [HX.out]; exact c123) HBB.out (by omega) (by omega) w)
        subst c123
        clear e2 e3 c34 c91
        go_wp2_with fail
        refine (HMC.out _).mono ?_
        rintro e w2 ⟨pv, t, rfl, u2, htl, hcase⟩
        have HU3 : Hid (Up w w2) := HU2.out.trans u2
        have hsz := HU2.out.size
        rcases hcase with ⟨hnone, rfl⟩ | ⟨v, b, hsome, rfl, hb, hok⟩
        · have HC := hide hnone
          clear hnone u2
          go_wp2
          go_ret2
          exact ⟨_, t, rfl, HU3.out, by omega, .inl ⟨by rw [HE.out, HC.out], rfl⟩⟩
        · have HC := hide hsome
          have HOK := hide hok
          have HB2 := hide hb
          clear hsome hok u2 hb
          go_wp2
          go_ret2
          exact ⟨_, t, rfl, HU3.out, by omega, .inr ⟨v, b, by rw [HE.out, HC.out], rfl, ⟨Nat.le_trans hsz HB2.out.1, HB2.out.2⟩, Js.Ok.of (fun _ _ => rfl) (fun b hb => ⟨Nat.le_trans hsz hb.1, hb.2⟩) HOK.out⟩⟩
      have b123 := beq_eq_false_iff_ne.2 c123
      obtain ⟨m, hm⟩ : ∃ m, m = Tx.num false s := ⟨_, rfl⟩
      have hml : m ≤ s.length := by rw [hm]; exact Tx.num_le false s
      have HE : Hid (Js.rd n l = if m = 0 then none else some (.num (s.take m), s.drop m)) := by
        show _ = _
        rw [HRD.out, if_neg (by rw [HX.out]; exact c91), if_neg (by rw [HX.out]; exact c123), HLF.out, if_neg (by rw [HX.out]; exact c34), ← hm]
      have HNU := hide (fun w => Number_any s false w (by omega))
      rw [← hm] at HNU
      have HSH : Hid (m ≠ 0 → Du.Shape (s.take m)) := fun h => by
        rw [hm]
        exact Du.num_shape (by omega)
      clear hm c34 c91 c123
      by_cases hm0 : m = 0
      · subst hm0
        clear e2 e3
        go_wp2_with (go_at_call 118; refine (HNU.out _).mono ?_; rintro e w2 ⟨rfl, hw⟩; replace hw := hw.symm; subst hw)
        go_ret2
        exact ⟨_, s, rfl, HU2.out, by omega, .inl ⟨by rw [HE.out]; rfl, rfl⟩⟩
      · have bm : ((m : Int) == 0) = false := beq_eq_false_iff_ne.2 (by omega)
        rw [if_neg hm0] at HE
        replace HSH := hide (HSH.out hm0)
        have hx2 : (bs s).extract m s.length = bs (s.drop m) := e2 m
        have hx3 : (bs s).extract 0 m = bs (s.take m) := e3 m
        have htk : (s.take m).length ≤ 6000 := by rw [List.length_take]; omega
        clear hm0 e2 e3
        go_wp2_with (go_at_call 118; refine (HNU.out _).mono ?_; rintro e w2 ⟨rfl, hw⟩; replace hw := hw.symm; subst hw)
        go_region_with (fail)
        all_goals
          go_wp2
          go_ret2
          exact ⟨_, s.drop m, rfl, (HU.out.drewN _).alloc _, by rw [List.length_drop]; omega, .inr ⟨.num (s.take m), wA.heap.size, HE.out, rfl, ok_num (wB := wA.drewN _) (HU.out.drewN _) HSH.out htk⟩⟩

theorem dRead_any : ∀ n : Nat, n ≤ 6000 → DReadAt n
  | 0, _ => by
    refine dRead_of 0 (by omega) (fun l h1 h2 h3 h4 w => ?_) (fun l h1 h2 h3 h4 w => ?_)
    · have := Tx.lt_of_at (l := l) (i := 0) (by omega)
      omega
    · have := Tx.lt_of_at (l := l) (i := 0) (by omega)
      omega
  | n + 1, hn => by
    have ih := dRead_any n (by omega)
    exact dRead_of (n + 1) hn (fun l h1 h2 h3 h4 w => many_list n (by omega) ih l h1 h2 h3 h4 w) (fun l h1 h2 h3 h4 w => many_object n (by omega) ih l h1 h2 h3 h4 w)
end Go.Proofs.YtcclepohmhdpbaaGreatDoor

/- LISTS THAT THE DOCUMENT READS, as they grow. -/
namespace Go.Proofs.YtcclepohmhdpbaaGreatDoor
set_option linter.all false
open Go.RowKit Go.Deep

theorem el_multi : Elem Tryz.prog 50 33 (.slice none 0 0) 1 24 := ⟨by kernel_rfl, info_rings, rfl, by omega, by omega⟩

theorem SD.keep {w w' : World} {b : Nat} {l : List UInt8} {bad wide : Bool} {base : Nat} {e : TypeId} {size : Nat} {v : Value} {n : Nat} {xs : List Value} (h : SD w b l bad wide) (ho : w.ownsRow base e size v n xs) (he : e ≠ 102) (hg : w.grownBy w' v.ownBlock) : SD w' b l bad wide :=
  VRow.grown h hg (own_row_ne ho h he)
theorem SD.alloc {w : World} {b : Nat} {l : List UInt8} {bad wide : Bool} (h : SD w b l bad wide) (o : Obj) : SD (w.alloc o) b l bad wide := VRow.alloc h o

/-- A list of the document's that is being read: rings. -/
structure Q1 (w wr : World) (b : Nat) (v : Value) (r : Ring) (l : List UInt8) (bad wide : Bool) : Prop where
  own : wr.ownsRow w.heap.size 32 2 v r.length (flat r)
  sd : SD wr b l bad wide
  fr : Fr (· = b) w wr
  len : r.length ≤ 6001
  rest : l.length ≤ 6000
  sum : bad = false → r.length + l.length ≤ 6000

theorem Q1.step {w wr w4 w5 : World} {b : Nat} {v : Value} {r : Ring} {l l4 : List UInt8} {wide b4 o4 : Bool} {x y : Int} {g cap : Nat} (h : Q1 w wr b v r l false wide) (h4 : SD w4 b l4 b4 o4) (u : Fr (· = b) wr w4) (hs : b4 = false → l4.length + 1 ≤ l.length) (hl4 : l4.length ≤ 6000)
    (hown : w5.ownsRow w.heap.size 32 2 (.slice (some ⟨g, 0, none⟩) (r.length + 1) cap) (r.length + 1) (flat r ++ [.int .i64 x, .int .i64 y])) (hg : (w4.alloc (.cells #[.int .i64 x, .int .i64 y] 32)).grownBy w5 v.ownBlock) :
    Q1 w w5 b (.slice (some ⟨g, 0, none⟩) (r.length + 1) cap) (r ++ [(x, y)]) l4 b4 o4 := by
  have hb := h.sd
  have o4' : w4.ownsRow w.heap.size 32 2 v r.length (flat r) := own_fr h.own u fun g hg e => own_row_ne h.own hb (by decide) (e ▸ hg)
  have oA := o4'.alloc (.cells #[.int .i64 x, .int .i64 y] 32)
  refine ⟨?_, (h4.alloc _).keep oA (by decide) hg, ((h.fr.trans u).alloc _).grown hg fun k hk => .inr (own_lt h.own hk).1, by simp; have := h.sum rfl; omega, hl4, fun e => ?_⟩
  · rw [flat_append, List.length_append]; exact hown
  · have := hs e
    have := h.sum rfl
    simp; omega

/-- Lists of lists. -/
structure Q2 (w wr : World) (b : Nat) (v : Value) (rs : List L1) (l : List UInt8) (bad wide : Bool) : Prop where
  own : wr.ownsRow w.heap.size 30 1 v rs.length (rs.map L1.v)
  sub : ∀ y ∈ rs, y.ok wr
  sd : SD wr b l bad wide
  fr : Fr (· = b) w wr
  len : rs.length ≤ 6001
  rest : l.length ≤ 6000
  sum : bad = false → rs.length + l.length ≤ 6000

theorem Q2.step {w wr w4 w5 : World} {b : Nat} {v : Value} {rs : List L1} {l l4 : List UInt8} {wide b4 o4 : Bool} {xa : Option Addr} {xn xc : Nat} {xr : Ring} {g cap : Nat} (h : Q2 w wr b v rs l false wide) (h4 : SD w4 b l4 b4 o4) (u : Fr (· = b) wr w4) (hx : L1.ok w4 ⟨.slice xa xn xc, xr⟩) (hs : b4 = false → l4.length + 1 ≤ l.length) (hl4 : l4.length ≤ 6000)
    (hown : w5.ownsRow w.heap.size 30 1 (.slice (some ⟨g, 0, none⟩) (rs.length + 1) cap) (rs.length + 1) (rs.map L1.v ++ [.slice xa xn xc])) (hg : (w4.alloc (.cells #[.slice xa xn xc] 30)).grownBy w5 v.ownBlock) :
    Q2 w w5 b (.slice (some ⟨g, 0, none⟩) (rs.length + 1) cap) (rs ++ [⟨.slice xa xn xc, xr⟩]) l4 b4 o4 := by
  have hb := h.sd
  have o4' : w4.ownsRow w.heap.size 30 1 v rs.length (rs.map L1.v) := own_fr h.own u fun g hg e => own_row_ne h.own hb (by decide) (e ▸ hg)
  have oA := o4'.alloc (.cells #[.slice xa xn xc] 30)
  have hA := (Up.refl w4).alloc (.cells #[.slice xa xn xc] 30)
  refine ⟨?_, fun y hy => ?_, (h4.alloc _).keep oA (by decide) hg, ((h.fr.trans u).alloc _).grown hg fun k hk => .inr (own_lt h.own hk).1, by simp; have := h.sum rfl; omega, hl4, fun e => ?_⟩
  · rw [List.map_append, List.length_append]; exact hown
  · rcases List.mem_append.1 hy with hy | hy
    · exact (((h.sub y hy).fr u fun b hb' e => (h.sub y hy).row_ne hb (by decide) (e ▸ hb')).up hA).grown oA (by decide) hg
    · simp at hy; subst hy
      exact (hx.up hA).grown oA (by decide) hg
  · have := hs e
    have := h.sum rfl
    simp; omega

structure Q3 (w wr : World) (b : Nat) (v : Value) (ps : List L2) (l : List UInt8) (bad wide : Bool) : Prop where
  own : wr.ownsRow w.heap.size 33 1 v ps.length (ps.map L2.v)
  sub : ∀ y ∈ ps, y.ok wr
  sd : SD wr b l bad wide
  fr : Fr (· = b) w wr
  len : ps.length ≤ 6001
  rest : l.length ≤ 6000
  sum : bad = false → ps.length + l.length ≤ 6000

theorem Q3.step {w wr w4 w5 : World} {b : Nat} {v : Value} {ps : List L2} {l l4 : List UInt8} {wide b4 o4 : Bool} {xa : Option Addr} {xn xc : Nat} {xr : List L1} {g cap : Nat} (h : Q3 w wr b v ps l false wide) (h4 : SD w4 b l4 b4 o4) (u : Fr (· = b) wr w4) (hx : L2.ok w4 ⟨.slice xa xn xc, xr⟩) (hs : b4 = false → l4.length + 1 ≤ l.length) (hl4 : l4.length ≤ 6000)
    (hown : w5.ownsRow w.heap.size 33 1 (.slice (some ⟨g, 0, none⟩) (ps.length + 1) cap) (ps.length + 1) (ps.map L2.v ++ [.slice xa xn xc])) (hg : (w4.alloc (.cells #[.slice xa xn xc] 33)).grownBy w5 v.ownBlock) :
    Q3 w w5 b (.slice (some ⟨g, 0, none⟩) (ps.length + 1) cap) (ps ++ [⟨.slice xa xn xc, xr⟩]) l4 b4 o4 := by
  have hb := h.sd
  have o4' : w4.ownsRow w.heap.size 33 1 v ps.length (ps.map L2.v) := own_fr h.own u fun g hg e => own_row_ne h.own hb (by decide) (e ▸ hg)
  have oA := o4'.alloc (.cells #[.slice xa xn xc] 33)
  have hA := (Up.refl w4).alloc (.cells #[.slice xa xn xc] 33)
  refine ⟨?_, fun y hy => ?_, (h4.alloc _).keep oA (by decide) hg, ((h.fr.trans u).alloc _).grown hg fun k hk => .inr (own_lt h.own hk).1, by simp; have := h.sum rfl; omega, hl4, fun e => ?_⟩
  · rw [List.map_append, List.length_append]; exact hown
  · rcases List.mem_append.1 hy with hy | hy
    · exact (((h.sub y hy).fr u fun b hb' e => (h.sub y hy).row_ne hb (by decide) (by decide) (e ▸ hb')).up hA).grown oA (by decide) (by decide) hg
    · simp at hy; subst hy
      exact (hx.up hA).grown oA (by decide) (by decide) hg
  · have := hs e
    have := h.sum rfl
    simp; omega

theorem Q1.start {w : World} {b : Nat} {l : List UInt8} {bad wide : Bool} (h : SD w b l bad wide) (hl : l.length ≤ 6000) : Q1 w w b (.slice none 0 0) [] l bad wide := ⟨World.ownsRow_nil _ _ _ _, h, Fr.refl _ _, by simp, hl, fun _ => by simpa using hl⟩
theorem Q2.start {w : World} {b : Nat} {l : List UInt8} {bad wide : Bool} (h : SD w b l bad wide) (hl : l.length ≤ 6000) : Q2 w w b (.slice none 0 0) [] l bad wide := ⟨World.ownsRow_nil _ _ _ _, by simp, h, Fr.refl _ _, by simp, hl, fun _ => by simpa using hl⟩
theorem Q3.start {w : World} {b : Nat} {l : List UInt8} {bad wide : Bool} (h : SD w b l bad wide) (hl : l.length ≤ 6000) : Q3 w w b (.slice none 0 0) [] l bad wide := ⟨World.ownsRow_nil _ _ _ _, by simp, h, Fr.refl _ _, by simp, hl, fun _ => by simpa using hl⟩

theorem Q1.sd' {w wr w' : World} {b : Nat} {v : Value} {r : Ring} {l l' : List UInt8} {bad wide bad' wide' : Bool} (h : Q1 w wr b v r l bad wide) (h4 : SD w' b l' bad' wide') (u : Fr (· = b) wr w') (hl : l'.length ≤ l.length) (hb : bad' = false → bad = false) : Q1 w w' b v r l' bad' wide' :=
  ⟨own_fr h.own u fun g hg e => own_row_ne h.own h.sd (by decide) (e ▸ hg), h4, h.fr.trans u, h.len, by have := h.rest; omega, fun e => by have := h.sum (hb e); omega⟩
theorem Q2.sd' {w wr w' : World} {b : Nat} {v : Value} {r : List L1} {l l' : List UInt8} {bad wide bad' wide' : Bool} (h : Q2 w wr b v r l bad wide) (h4 : SD w' b l' bad' wide') (u : Fr (· = b) wr w') (hl : l'.length ≤ l.length) (hb : bad' = false → bad = false) : Q2 w w' b v r l' bad' wide' :=
  ⟨own_fr h.own u fun g hg e => own_row_ne h.own h.sd (by decide) (e ▸ hg), fun y hy => (h.sub y hy).fr u fun b hb' e => (h.sub y hy).row_ne h.sd (by decide) (e ▸ hb'), h4, h.fr.trans u, h.len, by have := h.rest; omega, fun e => by have := h.sum (hb e); omega⟩
theorem Q3.sd' {w wr w' : World} {b : Nat} {v : Value} {r : List L2} {l l' : List UInt8} {bad wide bad' wide' : Bool} (h : Q3 w wr b v r l bad wide) (h4 : SD w' b l' bad' wide') (u : Fr (· = b) wr w') (hl : l'.length ≤ l.length) (hb : bad' = false → bad = false) : Q3 w w' b v r l' bad' wide' :=
  ⟨own_fr h.own u fun g hg e => own_row_ne h.own h.sd (by decide) (e ▸ hg), fun y hy => (h.sub y hy).fr u fun b hb' e => (h.sub y hy).row_ne h.sd (by decide) (by decide) (e ▸ hb'), h4, h.fr.trans u, h.len, by have := h.rest; omega, fun e => by have := h.sum (hb e); omega⟩

theorem Q1.step' {w wr w4 w5 : World} {b : Nat} {v : Value} {r : Ring} {l l4 : List UInt8} {bad wide b4 o4 : Bool} {x y : Int} {g cap : Nat} (h : Q1 w wr b v r l bad wide) (h6 : r.length ≤ 6000) (h4 : SD w4 b l4 b4 o4) (u : Fr (· = b) wr w4) (hs : b4 = false → r.length + 1 + l4.length ≤ 6000) (hl4 : l4.length ≤ 6000)
    (hown : w5.ownsRow w.heap.size 32 2 (.slice (some ⟨g, 0, none⟩) (r.length + 1) cap) (r.length + 1) (flat r ++ [.int .i64 x, .int .i64 y])) (hg : (w4.alloc (.cells #[.int .i64 x, .int .i64 y] 32)).grownBy w5 v.ownBlock) :
    Q1 w w5 b (.slice (some ⟨g, 0, none⟩) (r.length + 1) cap) (r ++ [(x, y)]) l4 b4 o4 := by
  have hb := h.sd
  have o4' : w4.ownsRow w.heap.size 32 2 v r.length (flat r) := own_fr h.own u fun g hg e => own_row_ne h.own hb (by decide) (e ▸ hg)
  have oA := o4'.alloc (.cells #[.int .i64 x, .int .i64 y] 32)
  refine ⟨?_, (h4.alloc _).keep oA (by decide) hg, ((h.fr.trans u).alloc _).grown hg fun k hk => .inr (own_lt h.own hk).1, by simp; omega, hl4, fun e => ?_⟩
  · rw [flat_append, List.length_append]; exact hown
  · have := hs e
    simp; omega

theorem Q2.step' {w wr w4 w5 : World} {b : Nat} {v : Value} {rs : List L1} {l l4 : List UInt8} {bad wide b4 o4 : Bool} {xa : Option Addr} {xn xc : Nat} {xr : Ring} {g cap : Nat} (h : Q2 w wr b v rs l bad wide) (h6 : rs.length ≤ 6000) (h4 : SD w4 b l4 b4 o4) (u : Fr (· = b) wr w4) (hx : L1.ok w4 ⟨.slice xa xn xc, xr⟩) (hs : b4 = false → rs.length + 1 + l4.length ≤ 6000) (hl4 : l4.length ≤ 6000)
    (hown : w5.ownsRow w.heap.size 30 1 (.slice (some ⟨g, 0, none⟩) (rs.length + 1) cap) (rs.length + 1) (rs.map L1.v ++ [.slice xa xn xc])) (hg : (w4.alloc (.cells #[.slice xa xn xc] 30)).grownBy w5 v.ownBlock) :
    Q2 w w5 b (.slice (some ⟨g, 0, none⟩) (rs.length + 1) cap) (rs ++ [⟨.slice xa xn xc, xr⟩]) l4 b4 o4 := by
  have hb := h.sd
  have o4' : w4.ownsRow w.heap.size 30 1 v rs.length (rs.map L1.v) := own_fr h.own u fun g hg e => own_row_ne h.own hb (by decide) (e ▸ hg)
  have oA := o4'.alloc (.cells #[.slice xa xn xc] 30)
  have hA := (Up.refl w4).alloc (.cells #[.slice xa xn xc] 30)
  refine ⟨?_, fun y hy => ?_, (h4.alloc _).keep oA (by decide) hg, ((h.fr.trans u).alloc _).grown hg fun k hk => .inr (own_lt h.own hk).1, by simp; omega, hl4, fun e => ?_⟩
  · rw [List.map_append, List.length_append]; exact hown
  · rcases List.mem_append.1 hy with hy | hy
    · exact (((h.sub y hy).fr u fun b hb' e => (h.sub y hy).row_ne hb (by decide) (e ▸ hb')).up hA).grown oA (by decide) hg
    · simp at hy; subst hy
      exact (hx.up hA).grown oA (by decide) hg
  · have := hs e
    simp; omega

theorem Q3.step' {w wr w4 w5 : World} {b : Nat} {v : Value} {ps : List L2} {l l4 : List UInt8} {bad wide b4 o4 : Bool} {xa : Option Addr} {xn xc : Nat} {xr : List L1} {g cap : Nat} (h : Q3 w wr b v ps l bad wide) (h6 : ps.length ≤ 6000) (h4 : SD w4 b l4 b4 o4) (u : Fr (· = b) wr w4) (hx : L2.ok w4 ⟨.slice xa xn xc, xr⟩) (hs : b4 = false → ps.length + 1 + l4.length ≤ 6000) (hl4 : l4.length ≤ 6000)
    (hown : w5.ownsRow w.heap.size 33 1 (.slice (some ⟨g, 0, none⟩) (ps.length + 1) cap) (ps.length + 1) (ps.map L2.v ++ [.slice xa xn xc])) (hg : (w4.alloc (.cells #[.slice xa xn xc] 33)).grownBy w5 v.ownBlock) :
    Q3 w w5 b (.slice (some ⟨g, 0, none⟩) (ps.length + 1) cap) (ps ++ [⟨.slice xa xn xc, xr⟩]) l4 b4 o4 := by
  have hb := h.sd
  have o4' : w4.ownsRow w.heap.size 33 1 v ps.length (ps.map L2.v) := own_fr h.own u fun g hg e => own_row_ne h.own hb (by decide) (e ▸ hg)
  have oA := o4'.alloc (.cells #[.slice xa xn xc] 33)
  have hA := (Up.refl w4).alloc (.cells #[.slice xa xn xc] 33)
  refine ⟨?_, fun y hy => ?_, (h4.alloc _).keep oA (by decide) hg, ((h.fr.trans u).alloc _).grown hg fun k hk => .inr (own_lt h.own hk).1, by simp; omega, hl4, fun e => ?_⟩
  · rw [List.map_append, List.length_append]; exact hown
  · rcases List.mem_append.1 hy with hy | hy
    · exact (((h.sub y hy).fr u fun b hb' e => (h.sub y hy).row_ne hb (by decide) (by decide) (e ▸ hb')).up hA).grown oA (by decide) (by decide) hg
    · simp at hy; subst hy
      exact (hx.up hA).grown oA (by decide) (by decide) hg
  · have := hs e
    simp; omega
end Go.Proofs.YtcclepohmhdpbaaGreatDoor

/- THE DOCUMENT's JSON: rings. -/
namespace Go.Proofs.YtcclepohmhdpbaaGreatDoor
set_option linter.all false
open Go.RowKit Go.Deep

namespace Js
def kd : V → Int
  | .word => 0
  | .num _ => 1
  | .txt _ => 2
  | .lst _ => 3
  | .obj _ => 4
  | _ => 5
theorem Ok.node {K : Nat → Prop} {w : World} {v : V} {p : Nat} (h : Ok K w v [p]) (hi : isVal v = true) : K p ∧ ∃ s cv nv la ln lc, VRow w p 111 (vcells (kd v) s cv nv (.slice la ln lc) v.deep) := by
  cases v with
  | word => obtain ⟨b, h1, h2, h3⟩ := h; cases h1; exact ⟨h2, _, _, _, _, _, _, h3⟩
  | num s => obtain ⟨b, h1, h2, h3, h4⟩ := h; cases h1; exact ⟨h2, _, _, _, _, _, _, h3⟩
  | txt c => obtain ⟨b, cv, h1, h2, h3, h4⟩ := h; cases h1; exact ⟨h2, _, _, _, _, _, _, h3⟩
  | nil => cases hi
  | cons n a r => cases hi
  | lst m =>
    obtain ⟨b, lv, qs, h1, h2, h3, h4, h5⟩ := h; cases h1
    obtain ⟨a, n, c, rfl⟩ : ∃ a n c, lv = .slice a n c := own_shape h4.ownL
    exact ⟨h2, _, _, _, _, _, _, h3⟩
  | obj m =>
    obtain ⟨b, nv, lv, ys, qs, h1, h2, h3, h4, h5⟩ := h; cases h1
    obtain ⟨a, n, c, rfl⟩ : ∃ a n c, lv = .slice a n c := own_shape h4.ownL
    exact ⟨h2, _, _, _, _, _, _, h3⟩
theorem Ok.lst_ {K : Nat → Prop} {w : World} {m : V} {p : Nat} (h : Ok K w (.lst m) [p]) : K p ∧ ∃ acc la lc qs, m = ofM acc ∧ qs.length = acc.length ∧ qs.length ≤ 6000 ∧ VRow w p 111 (vcells 3 [] nilS nilS (.slice la qs.length lc) ((m.deep : Int) + 1)) ∧ w.ownsRow 0 105 1 (.slice la qs.length lc) qs.length (qs.map ptr) ∧ Ok K w (ofM acc) qs := by
  obtain ⟨b, lv, qs, h1, h2, h3, h4, h5, acc, rfl⟩ := h
  cases h1
  obtain ⟨a, c, rfl⟩ := own_len h4.ownL
  exact ⟨h2, acc, a, c, qs, rfl, (Ok.kids h5).1, h4.len, h3, h4.ownL, h5⟩
theorem Ok.num_ {K : Nat → Prop} {w : World} {s : List UInt8} {p : Nat} (h : Ok K w (.num s) [p]) : VRow w p 111 (vcells 1 s nilS nilS nilS 0) ∧ Du.Shape s ∧ s.length ≤ 6000 := by
  obtain ⟨b, h1, h2, h3, h4, h5⟩ := h
  cases h1
  exact ⟨h3, h4, h5⟩
theorem cPt_not {v : V} (h : kd v ≠ 3) (o : Bool) : cPt v o = none := by
  cases v <;> first | rfl | exact absurd rfl h
theorem cList_not {β : Type} (c : V → Bool → Option (β × Bool)) {v : V} (h : kd v ≠ 3) (o : Bool) : cList c v o = none := by
  cases v <;> first | rfl | exact absurd rfl h
theorem cNum_not {v : V} (h : kd v ≠ 1) (o : Bool) : cNum v o = none := by
  cases v <;> first | rfl | exact absurd rfl h
theorem kd_lst {v : V} (h : kd v = 3) : ∃ m, v = .lst m := by
  cases v <;> first | exact ⟨_, rfl⟩ | cases h
theorem kd_num {v : V} (h : kd v = 1) : ∃ s, v = .num s := by
  cases v <;> first | exact ⟨_, rfl⟩ | cases h
theorem cPt_len {acc : List (List Int × V)} (h : acc.length ≠ 2) (o : Bool) : cPt (.lst (ofM acc)) o = none := by
  match acc with
  | [] => rfl
  | [a] => rfl
  | [a, b] => exact absurd rfl h
  | a :: b :: c :: r => rfl
theorem cPt_two (a b : List Int × V) (o : Bool) : cPt (.lst (ofM [a, b])) o = (cNum a.2 o).bind fun x => (cNum b.2 x.2).map fun y => ((x.1, y.1), y.2) := rfl
def preS {β : Type} (r : List β) (x : Option (List β × Bool)) : Option (List β × Bool) := x.map fun y => (r ++ y.1, y.2)
theorem mapS_step {α β : Type} {c : α → Bool → Option (β × Bool)} {acc : List α} {i : Nat} {x : α} {o : Bool} {r : List β} (h : acc[i]? = some x) : preS r (mapS c (acc.drop i) o) = (c x o).bind fun y => preS (r ++ [y.1]) (mapS c (acc.drop (i + 1)) y.2) := by
  have hi : i < acc.length := (List.getElem?_eq_some_iff.1 h).1
  have hx : acc[i] = x := (List.getElem?_eq_some_iff.1 h).2
  rw [List.drop_eq_getElem_cons hi, hx]
  simp only [mapS, preS]
  cases c x o with
  | none => rfl
  | some y =>
    simp only [Option.bind_some, Option.map_map]
    congr 1
    funext z
    simp
theorem mapS_end {α β : Type} {c : α → Bool → Option (β × Bool)} {acc : List α} {o : Bool} {r : List β} : preS r (mapS c (acc.drop acc.length) o) = some (r, o) := by
  simp [List.drop_length, mapS, preS]
end Js

/-- What is older than w, but for one block. -/
def KT (sb : Nat) (w : World) (b : Nat) : Prop := b < w.heap.size ∧ b ≠ sb
theorem Js.Ok.fr {sb : Nat} {w w' : World} {v : Js.V} {ps : List Nat} (h : Js.Ok (KT sb w) w v ps) (u : Fr (· = sb) w w') : Js.Ok (KT sb w) w' v ps := Js.Ok.of (fun b hb => u.block b hb.1 hb.2) (fun _ h => h) h
theorem Js.Ok.kt {sb : Nat} {w w' : World} {v : Js.V} {ps : List Nat} (h : Js.Ok (KT sb w) w' v ps) (hs : w.heap.size ≤ w'.heap.size) : Js.Ok (KT sb w') w' v ps := Js.Ok.of (fun _ _ => rfl) (fun b hb => ⟨by have := hb.1; omega, hb.2⟩) h

def DRgPost (v : Js.V) (wide : Bool) (sb : Nat) (w : World) (e : Ending) (w' : World) : Prop :=
  ∃ (x : L1) (bad' wide' : Bool), e = .returned x.v ∧ x.ok w' ∧ SD w' sb [] bad' wide' ∧ Fr (· = sb) w w' ∧ Js.cRing v wide = (if bad' = true then none else some (x.r, wide'))

set_option maxRecDepth 100000 in
set_option maxHeartbeats 16000000 in
theorem dRing_any (v : Js.V) (hi : Js.isVal v = true) (b sb : Nat) (wide : Bool) (w : World) (hs : SD w sb [] false wide) (hv : Js.Ok (KT sb w) w v [b]) :
    Calls Tryz.prog 119 #[.pointer (some ⟨sb, 0, none⟩), .pointer (some ⟨b, 0, none⟩)] w (DRgPost v wide sb w) := by
  by_cases hk : Js.kd v = 3
  · obtain ⟨m, rfl⟩ := Js.kd_lst hk
    obtain ⟨hb, acc, la, lc, qs, rfl, hql, hq6, hrow, hown, hkids⟩ := hv.lst_
    have HC : Hid (Js.cRing (.lst (Js.ofM acc)) wide = Js.mapS (fun x o => Js.cPt x.2 o) acc wide) := Js.mapV_ofM Js.cPt acc wide
    obtain ⟨T, hT⟩ : ∃ T, T = Js.mapS (fun (x : List Int × Js.V) o => Js.cPt x.2 o) acc wide := ⟨_, rfl⟩
    rw [← hT] at HC
    have HTC : Hid (Js.cRing (.lst (Js.ofM acc)) wide = T) := HC.out
    have HT0 : Hid (T = Js.preS [] (Js.mapS (fun (x : List Int × Js.V) o => Js.cPt x.2 o) (acc.drop 0) wide)) := by
      show _ = _
      rw [hT, List.drop_zero]
      cases Js.mapS (fun (x : List Int × Js.V) o => Js.cPt x.2 o) acc wide <;> rfl
    have HQL := hide hql
    have HKIDS := hide hkids
    have HROW := hide hrow
    have HOWN := hide hown
    have r0 := hrow.cell (i := 0) rfl
    obtain ⟨c0, c1, c2, f0, f1, f2⟩ := hs.facts
    have HS := hide hs
    have hne : b ≠ sb := hb.2
    have hne2 : sb ≠ b := fun e => hne e.symm
    obtain ⟨w1, hw1⟩ : ∃ W, W = w.setCell ⟨sb, 1, none⟩ (.bool false) := ⟨_, rfl⟩
    have HF1 : Hid (Fr (· = sb) w w1) := by rw [hw1]; exact (Fr.refl (· = sb) _).setCell (p := ⟨sb, 1, none⟩) rfl _
    have HS1 : Hid (SD w1 sb [] false wide) := by rw [hw1]; exact hs.bad false
    have HQ : Hid (Q1 w1 w1 sb (.slice none 0 0) [] [] false wide) := Q1.start HS1.out (by simp)
    have HW1 := hide hw1
    clear hk hrow hv hb hs c0 c2 f0 f2 hql hkids hown hT hw1
    go_enter Tryz.func119, Tryz.ntmps119
    go_wp2
    rw [← HW1.out]
    go_loopw [5, 6] (fun lv iv wr => ∃ (i : Nat) (r : Ring) (o : Bool) (u : Value), u = lv ∧ iv = .int .i64 i ∧ i ≤ qs.length ∧ r.length = i ∧ Hid (Q1 w1 wr sb u r [] false o) ∧ Hid (T = Js.preS r (Js.mapS (fun (x : List Int × Js.V) o => Js.cPt x.2 o) (acc.drop i) o))) (fun _ iv _ => qs.length - (intOf iv).toNat)
    case atStart => exact ⟨0, [], wide, _, rfl, rfl, Nat.zero_le _, rfl, HQ, HT0⟩
    case round =>
      obtain ⟨wo, hw⟩ : ∃ x, x = wr := ⟨_, rfl⟩
      subst hw
      obtain ⟨i, r, o, u, rfl, rfl, hil, hri, HI, HT⟩ := hrel
      obtain ⟨ua, un, uc, rfl⟩ : ∃ a n c, u = .slice a n c := own_shape HI.out.own
      obtain rfl : un = r.length := by obtain ⟨a, c, e⟩ := own_len HI.out.own; cases e; rfl
      have hF : Fr (· = sb) w wo := HF1.out.trans HI.out.fr
      have hrowr := hF.row HROW.out hne
      have hownr : wo.ownsRow 0 105 1 (.slice la qs.length lc) qs.length (qs.map Js.ptr) := own_fr HOWN.out hF fun g hg e => own_row_ne HOWN.out HS.out (by decide) (e ▸ hg)
      have hkidr := HKIDS.out.fr hF
      have q4 := hrowr.cell (i := 4) rfl
      have s1 := HI.out.sd.c1
      have s2 := HI.out.sd.c2
      have g1 := HI.out.sd.f 1
      have g2 := HI.out.sd.f 2
      have HRI := hide hri
      clear hri
      by_cases hlt : i < qs.length
      · obtain ⟨p, hp⟩ : ∃ p, qs[i]? = some p := ⟨qs[i], List.getElem?_eq_getElem _⟩
        obtain ⟨⟨xn, xv⟩, hx, hxok, hxv⟩ := (Js.Ok.kids hkidr).2 i p hp
        obtain ⟨g, cap, e, hcell⟩ := own_cell hownr (by omega)
        cases e
        have hci : wo.cell? ⟨g, i, none⟩ = some (.pointer (some ⟨p, 0, none⟩)) := hcell i _ (by simp [hp, Js.ptr])
        have HST := hide (Js.mapS_step (c := fun (x : List Int × Js.V) o => Js.cPt x.2 o) (r := r) (o := o) hx)
        have HTS : Hid (T = (Js.cPt xv o).bind fun y => Js.preS (r ++ [y.1]) (Js.mapS (fun (x : List Int × Js.V) o => Js.cPt x.2 o) (acc.drop (i + 1)) y.2)) := HT.out.trans HST.out
        clear hp hx hcell HT HST
        by_cases hk2 : Js.kd xv = 3
        · obtain ⟨m2, rfl⟩ := Js.kd_lst hk2
          obtain ⟨hpK, acc2, la2, lc2, qs2, rfl, hql2, hq62, hrow2, hown2, hkids2⟩ := hxok.lst_
          have y0 := hrow2.cell (i := 0) rfl
          have y4 := hrow2.cell (i := 4) rfl
          clear hk2 hxv
          by_cases h2 : qs2.length = 2
          · have ha2 : acc2.length = 2 := by omega
            obtain ⟨p0, p1, rfl⟩ : ∃ a b, qs2 = [a, b] := by
              match qs2, h2 with
              | [a, b], _ => exact ⟨a, b, rfl⟩
            obtain ⟨⟨n0, v0⟩, ⟨n1, v1⟩, rfl⟩ : ∃ a b, acc2 = [a, b] := by
              match acc2, ha2 with
              | [a, b], _ => exact ⟨a, b, rfl⟩
            obtain ⟨x0, hx0, hok0, hiv0⟩ := (Js.Ok.kids hkids2).2 0 p0 rfl
            obtain ⟨x1, hx1, hok1, hiv1⟩ := (Js.Ok.kids hkids2).2 1 p1 rfl
            simp only [List.getElem?_cons_zero, List.getElem?_cons_succ, Option.some.injEq] at hx0 hx1
            subst hx0 hx1
            obtain ⟨g2', cap2, e, hcell2⟩ := own_cell hown2 (by simp)
            cases e
            have z0 : wo.cell? ⟨g2', 0, none⟩ = some (.pointer (some ⟨p0, 0, none⟩)) := hcell2 0 _ rfl
            have z1 : wo.cell? ⟨g2', 1, none⟩ = some (.pointer (some ⟨p1, 0, none⟩)) := hcell2 1 _ rfl
            have HC2 := hide (Js.cPt_two (n0, v0) (n1, v1) o)
            clear hcell2 hxok hkids2 hown2 hrow2 hkidr hownr hrowr
            have hll : [p0, p1].length = 2 := rfl
            by_cases hk0 : Js.kd v0 = 1
            · obtain ⟨s0, rfl⟩ := Js.kd_num hk0
              obtain ⟨hrp0, hsh0, hsl0⟩ := hok0.num_
              have a0 := hrp0.cell (i := 0) rfl
              have a1 := hrp0.cell (i := 1) rfl
              clear hrp0 hk0 hiv0 hok0
              by_cases hk1 : Js.kd v1 = 1
              · obtain ⟨s1', rfl⟩ := Js.kd_num hk1
                obtain ⟨hrp1, hsh1, hsl1⟩ := hok1.num_
                have b0 := hrp1.cell (i := 0) rfl
                have b1 := hrp1.cell (i := 1) rfl
                clear hrp1 hk1 hiv1 hok1
                have HU0 := hide (fun w => dUnits_shape s0 hsh0 hsl0 w)
                have HU1 := hide (fun w => dUnits_shape s1' hsh1 hsl1 w)
                unfold Hid at HU0 HU1
                rw [Wt.unitsV_eq] at HU0 HU1
                obtain ⟨X, hX⟩ : ∃ x, x = Wt.cv s0 := ⟨_, rfl⟩
                obtain ⟨Y, hY⟩ : ∃ x, x = Wt.cv s1' := ⟨_, rfl⟩
                obtain ⟨N0, hN0⟩ : ∃ x, x = (Du.units s0).isNone := ⟨_, rfl⟩
                obtain ⟨N1, hN1⟩ : ∃ x, x = (Du.units s1').isNone := ⟨_, rfl⟩
                rw [← hX, ← hN0] at HU0
                rw [← hY, ← hN1] at HU1
                have HTN : Hid (T = Js.preS (r ++ [(X, Y)]) (Js.mapS (fun (x : List Int × Js.V) o => Js.cPt x.2 o) (acc.drop (i + 1)) ((o || N0) || N1))) := by
                  show _ = _
                  rw [HTS.out, HC2.out, hX, hY, hN0, hN1]
                  rfl
                replace HU0 := hide HU0
                replace HU1 := hide HU1
                clear hX hY hN0 hN1 HTS HC2 hsh0 hsh1
                have hr6 : r.length + 1 ≤ 6000 := by rw [HRI.out]; omega
                cases o <;> cases N0 <;> cases N1
                all_goals
                  go_wp2_with fail
                  refine (HU0.out _).mono ?_
                  rintro e w2 ⟨rfl, u2⟩
                  have y42 := u2.cell y4
                  have z12 := u2.cell z1
                  have b12 := u2.cell b1
                  have HU2 := hide u2
                  clear u2
                  go_wp2_with fail
                  refine (HU1.out _).mono ?_
                  rintro e w3 ⟨rfl, u3⟩
                  have hsd3 : SD w3 sb [] false _ := VRow.of_block HI.out.sd ((HU2.out.trans u3).block _ (VRow.lt HI.out.sd))
                  have s23 := hsd3.c2
                  have g23 := hsd3.f 2
                  have HSD3 := hide hsd3
                  have HF3 : Hid (Fr (· = sb) wo w3) := Fr.of_up (HU2.out.trans u3)
                  have HO3 : Hid (w3.ownsRow w1.heap.size 32 2 (.slice ua r.length uc) r.length (flat r)) := own_fr HI.out.own HF3.out fun g hg e => own_row_ne HI.out.own HI.out.sd (by decide) (e ▸ hg)
                  have HSB : Hid ((Value.slice ua r.length uc).ownBlock ≠ some sb) := own_row_ne HO3.out HSD3.out (by decide)
                  have hrb : Hid (r.length ≤ 1073741824) := by show _ ≤ _; omega
                  have HNW : Hid (∀ z : Bool, ((w3.setCell ⟨sb, 2, none⟩ (.bool z)).alloc (.cells #[.int .i64 X, .int .i64 Y] 32)).heap[w3.heap.size]? = some (.cells #[.int .i64 X, .int .i64 Y] 32)) := by
                    intro z
                    have := heap_alloc_new (w3.setCell ⟨sb, 2, none⟩ (.bool z)) (.cells #[.int .i64 X, .int .i64 Y] 32)
                    simpa using this
                  have hsz := hide (HI.out.fr.trans HF3.out).size
                  clear u3 hsd3 y42 z12 b12 y4 z1 b1 a0 a1 b0 z0 y0 hci q4 s1 s2 g1 g2
                  go_wp2_with (at_builtin; refine wpList_app el_pt rfl (.tmp 124) (.tmp 128) rfl w1.heap.size _ _ _ (by rfl) ((own_set (a := ⟨sb, 2, none⟩) HO3.out HSB.out _).alloc _) w3.heap.size [.int .i64 X, .int .i64 Y] (by rfl) rfl (HNW.out _) (by intro u hu; simp at hu; rcases hu with rfl | rfl <;> rfl) hrb.out (by have := hsz.out; simp at this ⊢; omega) ?_; intro g cap w5 hown5 hg5 hat5 hlt5; have hq5 := hide (HI.out.step' (by omega) (HSD3.out.wide _) (HF3.out.setCell (p := ⟨sb, 2, none⟩) rfl _) (fun _ => by simp; omega) (by simp) hown5 hg5); clear hat5 hlt5 hown5 hg5)
                  go_roundw
                  case rel => exact ⟨i + 1, r ++ [(X, Y)], _, _, rfl, by go_num, by omega, by rw [List.length_append, HRI.out]; rfl, hq5, HTN.out⟩
                  case measure => simp [intOf]; omega
              · have HE : Hid (T = none) := by
                  show _ = _
                  rw [HTS.out, HC2.out]
                  have hz : ∀ o', Js.cNum v1 o' = none := Js.cNum_not hk1
                  cases Js.cNum (n0, Js.V.num s0).snd o <;> simp [hz]
                obtain ⟨hKp1, sx, cvx, nvx, lax, lnx, lcx, hrp1⟩ := hok1.node hiv1
                obtain ⟨k1, hk1e⟩ : ∃ k, k = Js.kd v1 := ⟨_, rfl⟩
                rw [← hk1e] at hrp1 hk1
                have b0 := hrp1.cell (i := 0) rfl
                have bk1 : (k1 != 1) = true := bne_iff_ne.2 hk1
                clear hk1 hk1e hrp1 hok1 HTS HC2
                go_wp2
                go_ret
                exact ⟨⟨.slice ua r.length uc, r⟩, true, o, rfl, own_base (own_fr HI.out.own ((Fr.refl (· = sb) _).setCell (p := ⟨sb, 1, none⟩) rfl _) fun g hg e => own_row_ne HI.out.own HI.out.sd (by decide) (e ▸ hg)) (Nat.zero_le _), HI.out.sd.bad true, (HF1.out.trans HI.out.fr).setCell (p := ⟨sb, 1, none⟩) rfl _, by rw [HTC.out, HE.out]; rfl⟩
            · have HE : Hid (T = none) := by
                show _ = _
                rw [HTS.out, HC2.out, Js.cNum_not hk0]
                rfl
              obtain ⟨hKp0, sx, cvx, nvx, lax, lnx, lcx, hrp0⟩ := hok0.node hiv0
              obtain ⟨k0, hk0e⟩ : ∃ k, k = Js.kd v0 := ⟨_, rfl⟩
              rw [← hk0e] at hrp0 hk0
              have b0 := hrp0.cell (i := 0) rfl
              have bk0 : (k0 != 1) = true := bne_iff_ne.2 hk0
              clear hk0 hk0e hrp0 hok0 hok1 HTS HC2
              go_wp2
              go_ret
              exact ⟨⟨.slice ua r.length uc, r⟩, true, o, rfl, own_base (own_fr HI.out.own ((Fr.refl (· = sb) _).setCell (p := ⟨sb, 1, none⟩) rfl _) fun g hg e => own_row_ne HI.out.own HI.out.sd (by decide) (e ▸ hg)) (Nat.zero_le _), HI.out.sd.bad true, (HF1.out.trans HI.out.fr).setCell (p := ⟨sb, 1, none⟩) rfl _, by rw [HTC.out, HE.out]; rfl⟩
          · have HE : Hid (T = none) := by
              show _ = _
              rw [HTS.out, Js.cPt_len (by omega)]
              rfl
            have hln2 : ((qs2.length : Int) != 2) = true := bne_iff_ne.2 (by omega)
            clear hkids2 hown2 hrow2 hxok h2 HTS hkidr hownr hrowr hql2
            go_wp2
            go_ret
            exact ⟨⟨.slice ua r.length uc, r⟩, true, o, rfl, own_base (own_fr HI.out.own ((Fr.refl (· = sb) _).setCell (p := ⟨sb, 1, none⟩) rfl _) fun g hg e => own_row_ne HI.out.own HI.out.sd (by decide) (e ▸ hg)) (Nat.zero_le _), HI.out.sd.bad true, (HF1.out.trans HI.out.fr).setCell (p := ⟨sb, 1, none⟩) rfl _, by rw [HTC.out, HE.out]; rfl⟩
        · have HE : Hid (T = none) := by
            show _ = _
            rw [HTS.out, Js.cPt_not hk2]
            rfl
          obtain ⟨hKp, sx, cvx, nvx, lax, lnx, lcx, hrp⟩ := hxok.node hxv
          obtain ⟨kx, hkx⟩ : ∃ k, k = Js.kd xv := ⟨_, rfl⟩
          rw [← hkx] at hrp hk2
          have b0 := hrp.cell (i := 0) rfl
          have bkx : (kx != 3) = true := bne_iff_ne.2 hk2
          clear hk2 hkx hrp hxok HTS hkidr hownr hrowr
          go_wp2
          go_ret
          exact ⟨⟨.slice ua r.length uc, r⟩, true, o, rfl, own_base (own_fr HI.out.own ((Fr.refl (· = sb) _).setCell (p := ⟨sb, 1, none⟩) rfl _) fun g hg e => own_row_ne HI.out.own HI.out.sd (by decide) (e ▸ hg)) (Nat.zero_le _), HI.out.sd.bad true, (HF1.out.trans HI.out.fr).setCell (p := ⟨sb, 1, none⟩) rfl _, by rw [HTC.out, HE.out]; rfl⟩
      · have HE : Hid (T = some (r, o)) := by
          have hia : i = acc.length := by rw [← HQL.out]; omega
          have h := HT.out
          rw [hia, Js.mapS_end] at h
          exact h
        clear hkidr hownr hrowr HT
        go_wp2
        go_ret
        exact ⟨⟨.slice ua r.length uc, r⟩, false, o, rfl, own_base HI.out.own (Nat.zero_le _), HI.out.sd, HF1.out.trans HI.out.fr, by rw [HTC.out, HE.out]; rfl⟩
  · obtain ⟨hb, s, cv, nv, la, ln, lc, hrow⟩ := hv.node hi
    have HE := hide (Js.cList_not Js.cPt hk wide)
    have hb3 : (Js.kd v != 3) = true := bne_iff_ne.2 hk
    obtain ⟨kv, hkv⟩ : ∃ k, k = Js.kd v := ⟨_, rfl⟩
    rw [← hkv] at hrow hb3
    have r0 := hrow.cell (i := 0) rfl
    have r4 := hrow.cell (i := 4) rfl
    obtain ⟨c0, c1, c2, f0, f1, f2⟩ := hs.facts
    have HS := hide hs
    have hne : b ≠ sb := hb.2
    have hne2 : sb ≠ b := fun e => hne e.symm
    clear hk hkv hrow hv hb hs c0 c2 f0 f2
    go_enter Tryz.func119, Tryz.ntmps119
    go_wp2
    go_loopw [5, 6] (fun lv iv wr => lv = .slice none 0 0 ∧ iv = .int .i64 0 ∧ wr = w.setCell ⟨sb, 1, none⟩ (.bool true)) (fun _ _ _ => 0)
    case atStart => exact ⟨rfl, rfl, rfl⟩
    case round =>
      obtain ⟨rfl, rfl, rfl⟩ := hrel
      by_cases h0 : 0 < ln
      · go_wp2
        go_ret
        exact ⟨⟨.slice none 0 0, []⟩, true, wide, rfl, World.ownsRow_nil _ _ _ _, HS.out.bad true, (Fr.refl (· = sb) _).setCell (p := ⟨sb, 1, none⟩) rfl _, HE.out⟩
      · go_wp2
        go_ret
        exact ⟨⟨.slice none 0 0, []⟩, true, wide, rfl, World.ownsRow_nil _ _ _ _, HS.out.bad true, (Fr.refl (· = sb) _).setCell (p := ⟨sb, 1, none⟩) rfl _, HE.out⟩
end Go.Proofs.YtcclepohmhdpbaaGreatDoor

/- THE DOCUMENT's JSON: members by their names. -/
namespace Go.Proofs.YtcclepohmhdpbaaGreatDoor
set_option linter.all false
open Go.RowKit Go.Deep

namespace Js
/-- The places of the members of a name. -/
def sel (n : List Int) : List (List Int × V) → List Nat → List Nat
  | x :: r, q :: qs => if x.1 = n then q :: sel n r qs else sel n r qs
  | _, _ => []
theorem sel_step {n : List Int} {acc : List (List Int × V)} {qs : List Nat} {i q : Nat} {x : List Int × V} (hx : acc[i]? = some x) (hq : qs[i]? = some q) : sel n (acc.drop i) (qs.drop i) = if x.1 = n then q :: sel n (acc.drop (i + 1)) (qs.drop (i + 1)) else sel n (acc.drop (i + 1)) (qs.drop (i + 1)) := by
  have hi := (List.getElem?_eq_some_iff.1 hx).1
  have hj := (List.getElem?_eq_some_iff.1 hq).1
  have hx' : acc[i] = x := (List.getElem?_eq_some_iff.1 hx).2
  have hq' : qs[i] = q := (List.getElem?_eq_some_iff.1 hq).2
  rw [List.drop_eq_getElem_cons hi, List.drop_eq_getElem_cons hj, hx', hq']
  rfl
theorem sel_end {n : List Int} {acc : List (List Int × V)} {qs : List Nat} {i : Nat} (h : acc.length ≤ i) : sel n (acc.drop i) (qs.drop i) = [] := by
  rw [List.drop_of_length_le h]; rfl
theorem sel_le (n : List Int) : ∀ (acc : List (List Int × V)) (qs : List Nat), (sel n acc qs).length ≤ qs.length
  | [], qs => by simp [sel]
  | x :: r, [] => by simp [sel]
  | x :: r, q :: qs => by
    have := sel_le n r qs
    simp only [sel]
    split <;> simp <;> omega
end Js

structure DN (w wr : World) (u : Value) (os : List Nat) : Prop where
  own : wr.ownsRow w.heap.size 105 1 u os.length (os.map Js.ptr)
  up : Up w wr
theorem DN.step {w wr w4 w5 : World} {v : Value} {os : List Nat} {p : Nat} {g cap : Nat} (h : DN w wr v os) (u : Up wr w4) (hown : w5.ownsRow w.heap.size 105 1 (.slice (some ⟨g, 0, none⟩) (os.length + 1) cap) (os.length + 1) (os.map Js.ptr ++ [.pointer (some ⟨p, 0, none⟩)])) (hg : (w4.alloc (.cells #[.pointer (some ⟨p, 0, none⟩)] 105)).grownBy w5 v.ownBlock) :
    DN w w5 (.slice (some ⟨g, 0, none⟩) (os.length + 1) cap) (os ++ [p]) :=
  ⟨by rw [List.map_append, List.length_append]; exact hown, up_grown ((h.up.trans u).alloc _) hg fun k hk => (own_lt h.own hk).1⟩

def NdPost (n : List Int) (acc : List (List Int × Js.V)) (qs : List Nat) (w : World) (e : Ending) (w' : World) : Prop :=
  ∃ u, e = .returned u ∧ DN w w' u (Js.sel n acc qs)

set_option maxRecDepth 100000 in
set_option maxHeartbeats 8000000 in
theorem named_any (k : List UInt8) (hk : k.length ≤ 6000) (b : Nat) (acc : List (List Int × Js.V)) (nv lv : Value) (ys : List Js.NC) (qs : List Nat) (d : Int) (w : World) (hrow : VRow w b 111 (Js.vcells 4 [] Js.nilS nv lv d)) (hR : Js.Rows (fun b => b < w.heap.size) w nv lv ys qs) (hn : ys.map Js.NC.c = acc.map Prod.fst) (hq : qs.length = acc.length) :
    Calls Tryz.prog 77 #[.pointer (some ⟨b, 0, none⟩), .string (bs k)] w (NdPost (Js.up k) acc qs w) := by
  have HROW := hide hrow
  have HR := hide hR
  have HN := hide hn
  have HQ := hide hq
  have hyl : ys.length = qs.length := by
    have h1 := congrArg List.length hn
    rw [List.length_map, List.length_map] at h1
    omega
  have HYL := hide hyl
  obtain ⟨na, nc, rfl⟩ := own_len hR.ownN
  obtain ⟨la, lc, rfl⟩ := own_len hR.ownL
  have hy6 : ys.length ≤ 6000 := hR.lenN
  have HS0 : Hid (DN w w (.slice none 0 0) []) := ⟨World.ownsRow_nil _ _ _ _, Up.refl _⟩
  clear hrow hR hn hq hyl
  go_enter Tryz.func77, Tryz.ntmps77
  go_wp2
  go_loopw [5, 6] (fun ov iv wr => ∃ (i : Nat) (os : List Nat) (u : Value), u = ov ∧ iv = .int .i64 i ∧ i ≤ ys.length ∧ os.length ≤ i ∧ Hid (DN w wr u os) ∧ Hid (Js.sel (Js.up k) acc qs = os ++ Js.sel (Js.up k) (acc.drop i) (qs.drop i))) (fun _ iv _ => ys.length - (intOf iv).toNat)
  case atStart => exact ⟨0, [], _, rfl, rfl, Nat.zero_le _, Nat.le_refl _, HS0, by simp [Hid]⟩
  case round =>
    obtain ⟨wo, hw⟩ : ∃ x, x = wr := ⟨_, rfl⟩
    subst hw
    obtain ⟨i, os, u, rfl, rfl, hi, hoi, HI, HT⟩ := hrel
    obtain ⟨ua, un, uc, rfl⟩ : ∃ a n c, u = .slice a n c := own_shape HI.out.own
    obtain rfl : un = os.length := by obtain ⟨a, c, e⟩ := own_len HI.out.own; cases e; rfl
    have hU := HI.out.up
    have hrowr := HROW.out.of_block (hU.block _ HROW.out.lt)
    have q3 := hrowr.cell (i := 3) rfl
    have q4 := hrowr.cell (i := 4) rfl
    have HU := hide hU
    clear hrowr hU
    by_cases hlt : i < ys.length
    · obtain ⟨y, hy⟩ : ∃ y, ys[i]? = some y := ⟨ys[i], List.getElem?_eq_getElem _⟩
      obtain ⟨p, hp⟩ : ∃ p, qs[i]? = some p := ⟨qs[i]'(by rw [← HYL.out]; exact hlt), List.getElem?_eq_getElem _⟩
      obtain ⟨x, hx⟩ : ∃ x, acc[i]? = some x := ⟨acc[i]'(by rw [← HQ.out, ← HYL.out]; exact hlt), List.getElem?_eq_getElem _⟩
      have HXY : Hid (y.c = x.1) := by
        have h1 := congrArg (fun l => l[i]?) HN.out
        simp only [List.getElem?_map, hy, hx, Option.map_some, Option.some.injEq] at h1
        exact h1
      obtain ⟨gn, capn, e, hcn⟩ := own_cell (own_up HR.out.ownN HU.out) (by omega)
      cases e
      obtain ⟨gl, capl, e, hcl⟩ := own_cell (own_up HR.out.ownL HU.out) (by rw [← HYL.out]; omega)
      cases e
      have hyok := HR.out.oks y (List.mem_of_getElem? hy)
      obtain ⟨yv, yc⟩ := y
      obtain ⟨ya, yn, yc', rfl⟩ : ∃ a n c, yv = .slice a n c := own_shape hyok.own
      have cn : wo.cell? ⟨gn, i, none⟩ = some (.slice ya yn yc') := hcn i _ (by simp [hy])
      have cl : wo.cell? ⟨gl, i, none⟩ = some (.pointer (some ⟨p, 0, none⟩)) := hcl i _ (by simp [hp, Js.ptr])
      have hlq : i < qs.length := by rw [← HYL.out]; exact hlt
      have HSP := hide (spells_any yc k _ _ wo (own_up hyok.own HU.out) hyok.len hk)
      have HST := hide (Js.sel_step (n := Js.up k) hx hp)
      have HXY2 : Hid (yc = x.1) := HXY.out
      clear hcn hcl hyok hy hp hx HXY
      by_cases hc : yc = Js.up k
      · rw [decide_eq_true hc] at HSP
        have HG : Hid (Js.sel (Js.up k) acc qs = (os ++ [p]) ++ Js.sel (Js.up k) (acc.drop (i + 1)) (qs.drop (i + 1))) := by
          show _ = _
          rw [HT.out, HST.out, if_pos (HXY2.out.symm.trans hc)]
          simp
        have hrb : Hid (os.length ≤ 1073741824) := by show _ ≤ _; omega
        have hsz := hide HI.out.up.size
        clear hc HST HT
        go_wp2_with fail
        refine HSP.out.mono ?_
        rintro e w2 ⟨rfl, n2, rfl⟩
        have HO2 : Hid ((wo.drewN n2).ownsRow w.heap.size 105 1 (.slice ua os.length uc) os.length (os.map Js.ptr)) := own_up HI.out.own ((Up.refl _).drewN n2)
        have HOA := hide (HO2.out.alloc (.cells #[.pointer (some ⟨p, 0, none⟩)] 105))
        go_wp2_with (at_builtin; refine wpList_app el_vals rfl (.tmp 27) (.tmp 35) rfl w.heap.size _ _ _ (by rfl) HOA.out (wo.drewN n2).heap.size [.pointer (some ⟨p, 0, none⟩)] (by rfl) rfl (heap_alloc_new (wo.drewN n2) _) (by intro u hu; simp at hu; subst hu; rfl) hrb.out (by simp; have := hsz.out; omega) ?_; intro g cap w5 hown5 hg5 hat5 hlt5; have hq5 := hide (HI.out.step ((Up.refl _).drewN n2) hown5 hg5); clear hat5 hlt5 hown5 hg5)
        go_roundw
        case rel => exact ⟨i + 1, os ++ [p], _, rfl, by go_num, by omega, by simp; omega, hq5, HG⟩
        case measure => simp [intOf]; omega
      · rw [decide_eq_false hc] at HSP
        have HG : Hid (Js.sel (Js.up k) acc qs = os ++ Js.sel (Js.up k) (acc.drop (i + 1)) (qs.drop (i + 1))) := by
          show _ = _
          rw [HT.out, HST.out, if_neg (fun e => hc (HXY2.out.trans e))]
        clear hc HST HT
        go_wp2_with fail
        refine HSP.out.mono ?_
        rintro e w2 ⟨rfl, n2, rfl⟩
        go_wp2
        go_roundw
        case rel => exact ⟨i + 1, os, _, rfl, by go_num, by omega, by omega, ⟨own_up HI.out.own ((Up.refl _).drewN n2), HI.out.up.drewN n2⟩, HG⟩
        case measure => simp [intOf]; omega
    · have HE : Hid (Js.sel (Js.up k) acc qs = os) := by
        show _ = _
        rw [HT.out, Js.sel_end (by rw [← HQ.out, ← HYL.out]; omega)]
        simp
      clear HT
      go_wp2
      go_ret
      exact ⟨_, rfl, by rw [HE.out]; exact HI.out⟩
end Go.Proofs.YtcclepohmhdpbaaGreatDoor

/- THE DOCUMENT's JSON: the object's members, plainly. -/
namespace Go.Proofs.YtcclepohmhdpbaaGreatDoor
set_option linter.all false
open Go.RowKit Go.Deep

namespace Js
theorem ofM_inj : ∀ {a b : List (List Int × V)}, ofM a = ofM b → a = b
  | [], [], _ => rfl
  | [], y :: b, h => by cases h
  | x :: a, [], h => by cases h
  | x :: a, y :: b, h => by
    simp only [ofM, V.cons.injEq] at h
    obtain ⟨h1, h2, h3⟩ := h
    rw [ofM_inj h3, show x = y from Prod.ext h1 h2]
theorem set_none {l : List UInt8} (h : rd 6000 l = none) : set l = none := by
  rw [set_rd 5999 (by omega)]
  rw [rd_eq] at h
  unfold list0
  by_cases h1 : Tx.at_ (Tx.bare l) 0 = 123
  · have hl : list0 123 125 (mem true (rd 5999)) l = none := by
      rw [if_neg (by omega), if_pos h1] at h
      simp only [lstD, Option.map_eq_none_iff] at h
      exact h
    unfold list0 at hl
    rw [hl]; rfl
  · rw [pre1f (by simpa using h1)]; rfl
theorem set_other {l t : List UInt8} {v : V} (h : rd 6000 l = some (v, t)) (hv : kd v ≠ 4) : set l = none := by
  rw [set_rd 5999 (by omega)]
  rw [rd_eq] at h
  by_cases h1 : Tx.at_ (Tx.bare l) 0 = 123
  · rw [if_neg (by omega), if_pos h1] at h
    simp only [lstD, Option.map_eq_some_iff] at h
    obtain ⟨x, -, h⟩ := h
    cases h
    exact absurd rfl hv
  · unfold list0
    rw [pre1f (by simpa using h1)]; rfl
theorem set_obj {l t : List UInt8} {acc : List (List Int × V)} (h : rd 6000 l = some (.obj (ofM acc), t)) : set l = (answer acc).map fun y => (y.1, t, y.2) := by
  rw [set_rd 5999 (by omega)]
  rw [rd_eq] at h
  by_cases h1 : Tx.at_ (Tx.bare l) 0 = 123
  · rw [if_neg (by omega), if_pos h1] at h
    simp only [lstD, Option.map_eq_some_iff] at h
    obtain ⟨⟨ms, s⟩, h2, h⟩ := h
    simp only [Prod.mk.injEq, V.obj.injEq] at h
    rw [h2, ofM_inj h.1, h.2]
    rfl
  · rw [if_neg h1] at h
    split at h
    · simp only [lstD, Option.map_eq_some_iff] at h
      obtain ⟨x, -, h⟩ := h
      simp at h
    · exact absurd rfl ((leaf_deep h).2.2 _)
theorem err_none {l : List UInt8} (h : set l = none) : err l = 3 := by unfold err; rw [h]
theorem err_rest {l t : List UInt8} {A : Option (Mult × Bool)} (h : set l = A.map fun y => (y.1, t, y.2)) (ht : Tx.bare t ≠ []) : err l = 3 := by
  unfold err
  rw [h]
  cases A with
  | none => rfl
  | some y =>
    cases hb : Tx.bare t with
    | nil => exact absurd hb ht
    | cons a r => simp [Tx.fin, hb]
def ansE : Option (Mult × Bool) → Int
  | none => 3
  | some y => if y.2 = true then 4 else 0
theorem err_ans {l t : List UInt8} {A : Option (Mult × Bool)} (h : set l = A.map fun y => (y.1, t, y.2)) (ht : Tx.bare t = []) : err l = ansE A ∧ ∀ m o, A = some (m, o) → got l = m := by
  constructor
  · unfold err
    rw [h]
    cases A with
    | none => rfl
    | some y => simp [Tx.fin, ht, ansE]
  · intro m o e
    unfold got
    rw [h, e]
    rfl
theorem sel_named (n : List Int) : ∀ (acc : List (List Int × V)) (qs : List Nat), qs.length = acc.length → (sel n acc qs).length = (named n acc).length
  | [], qs, _ => rfl
  | x :: r, [], h => by simp at h
  | x :: r, q :: qs, h => by
    have ih := sel_named n r qs (by simpa using h)
    simp only [sel, named]
    by_cases hx : x.1 = n
    · simp only [hx, if_true, List.length_cons, ih]
      simp [named, hx]
    · simp only [hx, if_false, ih]
      simp [named, hx]
theorem named_nil {n : List Int} {acc : List (List Int × V)} (h : named n acc = []) : ∀ x ∈ acc, x.1 ≠ n := by
  intro x hx e
  have : x.2 ∈ named n acc := List.mem_map.2 ⟨x, List.mem_filter.2 ⟨hx, by simp [e]⟩, rfl⟩
  rw [h] at this
  simp at this
theorem sel_one (n : List Int) : ∀ (acc : List (List Int × V)) (qs : List Nat) (p : Nat), qs.length = acc.length → sel n acc qs = [p] → ∃ (i : Nat) (x : List Int × V), acc[i]? = some x ∧ qs[i]? = some p ∧ x.1 = n ∧ named n acc = [x.2] ∧ ∀ (j : Nat) (y : List Int × V), acc[j]? = some y → y.1 = n → j = i
  | [], qs, p, _, h => by simp [sel] at h
  | x :: r, [], p, h, _ => by simp at h
  | x :: r, q :: qs, p, hl, h => by
    simp only [sel] at h
    by_cases hx : x.1 = n
    · rw [if_pos hx] at h
      simp only [List.cons.injEq] at h
      obtain ⟨rfl, h⟩ := h
      have hn : named n r = [] := List.length_eq_zero_iff.1 (by rw [← sel_named n r qs (by simpa using hl), h]; rfl)
      refine ⟨0, x, rfl, rfl, hx, ?_, fun j y hy he => ?_⟩
      · have : named n (x :: r) = x.2 :: named n r := by simp [named, hx]
        rw [this, hn]
      · cases j with
        | zero => rfl
        | succ j => exact absurd he (named_nil hn y (List.mem_of_getElem? (by simpa using hy)))
    · rw [if_neg hx] at h
      obtain ⟨i, y, h1, h2, h3, h4, h5⟩ := sel_one n r qs p (by simpa using hl) h
      refine ⟨i + 1, y, by simpa using h1, by simpa using h2, h3, ?_, fun j z hz he => ?_⟩
      · have : named n (x :: r) = named n r := by simp [named, hx]
        rw [this, h4]
      · cases j with
        | zero =>
          simp at hz
          subst hz
          exact absurd he hx
        | succ j => rw [h5 j z (by simpa using hz) he]
theorem answer_len1 {acc : List (List Int × V)} (h : (named typeN acc).length ≠ 1) : answer acc = none := by unfold answer; rw [if_neg (fun e => h e.1)]
theorem answer_len2 {acc : List (List Int × V)} (h : (named listN acc).length ≠ 1) : answer acc = none := by unfold answer; rw [if_neg (fun e => h e.2.1)]
theorem answer_bad {acc : List (List Int × V)} (h : good acc = false) : answer acc = none := by unfold answer; rw [if_neg (fun e => by rw [h] at e; simp at e)]
theorem answer_good {acc : List (List Int × V)} {a v : V} (h1 : named typeN acc = [a]) (h2 : named listN acc = [v]) (h : good acc = true) : answer acc = cPolys v false := by
  unfold answer
  rw [if_pos ⟨by rw [h1]; rfl, by rw [h2]; rfl, h⟩, h2]
theorem good_at {acc : List (List Int × V)} {i : Nat} {x : List Int × V} (hx : acc[i]? = some x) (h : (if x.1 = typeN then isTT x.2 else if x.1 = listN then true else decide (x.2.deep ≤ 16)) = false) : good acc = false := by
  unfold good
  rw [List.all_eq_false]
  exact ⟨x, List.mem_of_getElem? hx, by rw [h]; simp⟩
theorem good_all {acc : List (List Int × V)} (h : ∀ (i : Nat) (x : List Int × V), acc[i]? = some x → (if x.1 = typeN then isTT x.2 else if x.1 = listN then true else decide (x.2.deep ≤ 16)) = true) : good acc = true := by
  unfold good
  rw [List.all_eq_true]
  intro x hx
  obtain ⟨i, hi⟩ := List.getElem?_of_mem hx
  exact h i x hi
theorem kd_txt {v : V} (h : kd v = 2) : ∃ c, v = .txt c := by
  cases v <;> first | exact ⟨_, rfl⟩ | cases h
theorem kd_obj {v : V} (h : kd v = 4) : ∃ m, v = .obj m := by
  cases v <;> first | exact ⟨_, rfl⟩ | cases h
theorem isTT_not {v : V} (h : kd v ≠ 2) : isTT v = false := by
  cases v <;> first | rfl | exact absurd rfl h
theorem sorted_ne {qs : List Nat} (h : qs.Pairwise (· < ·)) {i j p q : Nat} (hi : qs[i]? = some p) (hj : qs[j]? = some q) (hij : i ≠ j) : p ≠ q := by
  obtain ⟨hi1, hi2⟩ := List.getElem?_eq_some_iff.1 hi
  obtain ⟨hj1, hj2⟩ := List.getElem?_eq_some_iff.1 hj
  have hp := List.pairwise_iff_getElem.1 h
  rcases Nat.lt_or_ge i j with hlt | hge
  · have := hp i j hi1 hj1 hlt
    omega
  · have := hp j i hj1 hi1 (by omega)
    omega
theorem Ok.obj_ {K : Nat → Prop} {w : World} {m : V} {p : Nat} (h : Ok K w (.obj m) [p]) : K p ∧ ∃ acc nv lv ys qs, m = ofM acc ∧ qs.length = acc.length ∧ VRow w p 111 (vcells 4 [] nilS nv lv ((m.deep : Int) + 1)) ∧ Rows K w nv lv ys qs ∧ ys.map NC.c = acc.map Prod.fst ∧ Ok K w (ofM acc) qs := by
  obtain ⟨b, nv, lv, ys, qs, h1, h2, h3, h4, h5, h6, acc, rfl⟩ := h
  cases h1
  exact ⟨h2, acc, nv, lv, ys, qs, rfl, (Ok.kids h6).1, h3, h4, by rw [h5, names_ofM], h6⟩
theorem Ok.txt_ {K : Nat → Prop} {w : World} {c : List Int} {p : Nat} (h : Ok K w (.txt c) [p]) : ∃ cv, VRow w p 111 (vcells 2 [] cv nilS nilS 0) ∧ NC.ok K w ⟨cv, c⟩ := by
  obtain ⟨b, cv, h1, h2, h3, h4⟩ := h
  cases h1
  exact ⟨cv, h3, h4⟩
end Js

theorem und_pval : Tryz.prog.underlying 105 = some (.pointer 111) := by kernel_rfl
theorem info_val : (Tryz.prog.info? 111).map (fun i => i.size) = some 6 := by kernel_rfl
theorem neq_same (W : World) (a : Addr) : (binOp .neq 105 (.pointer (some a)) (.pointer (some a))).run Tryz.prog W = .ok (.bool false) W := by
  obtain ⟨j, hj, hs⟩ := Option.map_eq_some_iff.1 info_val
  have h : ∀ d : Nat, (Op.equalIn (d + 1) 105 (.pointer (some a)) (.pointer (some a))).run Tryz.prog W = .ok true W := fun d => by
    simp [Op.equalIn, run_underlying und_pval, sizeOf, typeInfo, hj, run_sameAddr_same]
  simp only [binOp]
  simp [Op.equal, Op.maxDepth, h 9999]
theorem neq_other (W : World) {p q : Nat} {vs us : List Value} {t u : TypeId} (hne : p ≠ q) (hp : VRow W p t vs) (hq : VRow W q u us) : (binOp .neq 105 (.pointer (some ⟨p, 0, none⟩)) (.pointer (some ⟨q, 0, none⟩))).run Tryz.prog W = .ok (.bool true) W := by
  obtain ⟨j, hj, hs⟩ := Option.map_eq_some_iff.1 info_val
  have hsz : j.size ≠ 0 := by rw [hs]; decide
  have hab : (⟨p, 0, none⟩ : Addr) ≠ ⟨q, 0, none⟩ := fun e => hne (congrArg Addr.block e)
  have h : ∀ d : Nat, (Op.equalIn (d + 1) 105 (.pointer (some ⟨p, 0, none⟩)) (.pointer (some ⟨q, 0, none⟩))).run Tryz.prog W = .ok false W := fun d => by
    simp [Op.equalIn, run_underlying und_pval, sizeOf, typeInfo, hj, hsz, run_sameAddr_other W hab hp hq]
  simp only [binOp]
  simp [Op.equal, Op.maxDepth, h 9999]
end Go.Proofs.YtcclepohmhdpbaaGreatDoor

/- THE DOCUMENT's JSON: polygons. -/
namespace Go.Proofs.YtcclepohmhdpbaaGreatDoor
set_option linter.all false
open Go.RowKit Go.Deep

def DPlPost (v : Js.V) (wide : Bool) (sb : Nat) (w : World) (e : Ending) (w' : World) : Prop :=
  ∃ (x : L3) (bad' wide' : Bool), e = .returned x.v ∧ x.ok w' ∧ SD w' sb [] bad' wide' ∧ Fr (· = sb) w w' ∧ Js.cPolys v wide = (if bad' = true then none else some (x.m, wide'))

set_option maxRecDepth 100000 in
set_option maxHeartbeats 16000000 in
theorem dPolys_any (v : Js.V) (hi : Js.isVal v = true) (b sb : Nat) (wide : Bool) (w : World) (hs : SD w sb [] false wide) (hv : Js.Ok (KT sb w) w v [b]) :
    Calls Tryz.prog 79 #[.pointer (some ⟨sb, 0, none⟩), .pointer (some ⟨b, 0, none⟩)] w (DPlPost v wide sb w) := by
  by_cases hk : Js.kd v = 3
  · obtain ⟨m, rfl⟩ := Js.kd_lst hk
    obtain ⟨hb, acc, la, lc, qs, rfl, hql, hq6, hrow, hown, hkids⟩ := hv.lst_
    have HTC : Hid (Js.cPolys (.lst (Js.ofM acc)) wide = Js.mapS (fun x o => Js.cPoly x.2 o) acc wide) := Js.mapV_ofM Js.cPoly acc wide
    obtain ⟨T, hT⟩ : ∃ T, T = Js.mapS (fun (x : List Int × Js.V) o => Js.cPoly x.2 o) acc wide := ⟨_, rfl⟩
    rw [← hT] at HTC
    have HT0 : Hid (T = if false = true then none else Js.preS ([] : List Poly) (Js.mapS (fun (x : List Int × Js.V) o => Js.cPoly x.2 o) (acc.drop 0) wide)) := by
      show _ = _
      rw [hT, List.drop_zero]
      cases Js.mapS (fun (x : List Int × Js.V) o => Js.cPoly x.2 o) acc wide <;> rfl
    have HQL := hide hql
    have HKIDS := hide hkids
    have HROW := hide hrow
    have HOWN := hide hown
    have r0 := hrow.cell (i := 0) rfl
    obtain ⟨c0, c1, c2, f0, f1, f2⟩ := hs.facts
    have HS := hide hs
    have hne : b ≠ sb := hb.2
    have hne2 : sb ≠ b := fun e => hne e.symm
    obtain ⟨w1, hw1⟩ : ∃ W, W = w.setCell ⟨sb, 1, none⟩ (.bool false) := ⟨_, rfl⟩
    have HF1 : Hid (Fr (· = sb) w w1) := by rw [hw1]; exact (Fr.refl (· = sb) _).setCell (p := ⟨sb, 1, none⟩) rfl _
    have HS1 : Hid (SD w1 sb [] false wide) := by rw [hw1]; exact hs.bad false
    have HQ : Hid (Q3 w1 w1 sb (.slice none 0 0) [] [] false wide) := Q3.start HS1.out (by simp)
    have HW1 := hide hw1
    clear hk hrow hv hb hs c0 c2 f0 f2 hql hkids hown hT hw1
    go_enter Tryz.func79, Tryz.ntmps79
    go_wp2
    rw [← HW1.out]
    go_loopw [5, 6] (fun mv iv wr => ∃ (i : Nat) (r : List L2) (bad o : Bool) (u : Value), u = mv ∧ iv = .int .i64 i ∧ i ≤ qs.length ∧ r.length = i ∧ Hid (Q3 w1 wr sb u r [] bad o) ∧ Hid (T = if bad = true then none else Js.preS (r.map L2.pts) (Js.mapS (fun (x : List Int × Js.V) o => Js.cPoly x.2 o) (acc.drop i) o))) (fun _ iv _ => qs.length - (intOf iv).toNat)
    case atStart => exact ⟨0, [], false, wide, _, rfl, rfl, Nat.zero_le _, rfl, HQ, HT0⟩
    case round =>
      obtain ⟨wo, hw⟩ : ∃ x, x = wr := ⟨_, rfl⟩
      subst hw
      obtain ⟨i, r, bad, o, u, rfl, rfl, hil, hri, HI, HT⟩ := hrel
      obtain ⟨ua, un, uc, rfl⟩ : ∃ a n c, u = .slice a n c := own_shape HI.out.own
      obtain rfl : un = r.length := by obtain ⟨a, c, e⟩ := own_len HI.out.own; cases e; rfl
      have hF : Fr (· = sb) w wo := HF1.out.trans HI.out.fr
      have hrowr := hF.row HROW.out hne
      have hownr : wo.ownsRow 0 105 1 (.slice la qs.length lc) qs.length (qs.map Js.ptr) := own_fr HOWN.out hF fun g hg e => own_row_ne HOWN.out HS.out (by decide) (e ▸ hg)
      have hkidr := HKIDS.out.fr hF
      have q4 := hrowr.cell (i := 4) rfl
      have s1 := HI.out.sd.c1
      have g1 := HI.out.sd.f 1
      have HRI := hide hri
      clear hri
      by_cases hlt : i < qs.length
      case neg =>
        have HE : Hid (T = if bad = true then none else some (r.map L2.pts, o)) := by
          have hia : i = acc.length := by rw [← HQL.out]; omega
          have h := HT.out
          rw [hia, Js.mapS_end] at h
          exact h
        clear hkidr hownr hrowr HT
        go_wp2
        go_ret
        exact ⟨⟨.slice ua r.length uc, r⟩, bad, o, rfl, ⟨own_base HI.out.own (Nat.zero_le _), HI.out.sub⟩, HI.out.sd, HF1.out.trans HI.out.fr, by rw [HTC.out, HE.out]; rfl⟩
      cases bad
      case true =>
        have HE : Hid (T = none) := HT.out
        clear hkidr hownr hrowr HT
        go_wp2
        go_ret
        exact ⟨⟨.slice ua r.length uc, r⟩, true, o, rfl, ⟨own_base HI.out.own (Nat.zero_le _), HI.out.sub⟩, HI.out.sd, HF1.out.trans HI.out.fr, by rw [HTC.out, HE.out]; rfl⟩
      obtain ⟨p, hp⟩ : ∃ p, qs[i]? = some p := ⟨qs[i], List.getElem?_eq_getElem _⟩
      obtain ⟨⟨xn, xv⟩, hx, hxok, hxv⟩ := (Js.Ok.kids hkidr).2 i p hp
      obtain ⟨g, cap, e, hcell⟩ := own_cell hownr (by omega)
      cases e
      have hci : wo.cell? ⟨g, i, none⟩ = some (.pointer (some ⟨p, 0, none⟩)) := hcell i _ (by simp [hp, Js.ptr])
      have HST := hide (Js.mapS_step (c := fun (x : List Int × Js.V) o => Js.cPoly x.2 o) (r := r.map L2.pts) (o := o) hx)
      have HTS : Hid (T = (Js.cPoly xv o).bind fun y => Js.preS (r.map L2.pts ++ [y.1]) (Js.mapS (fun (x : List Int × Js.V) o => Js.cPoly x.2 o) (acc.drop (i + 1)) y.2)) := HT.out.trans HST.out
      obtain ⟨hKp, sx, cvx, nvx, lax, lnx, lcx, hrp⟩ := hxok.node hxv
      have hpne : p ≠ sb := hKp.2
      have hpne2 : sb ≠ p := fun e => hpne e.symm
      have hgne : g ≠ sb := fun e => own_row_ne hownr HI.out.sd (by decide) (by rw [e]; rfl)
      have hgne2 : sb ≠ g := fun e => hgne e.symm
      obtain ⟨kx, hkx⟩ : ∃ k, k = Js.kd xv := ⟨_, rfl⟩
      rw [← hkx] at hrp
      have y0 := hrp.cell (i := 0) rfl
      have y4 := hrp.cell (i := 4) rfl
      have HHF := hide hF
      have hr6 : r.length + 1 ≤ 6000 := by rw [HRI.out]; omega
      have hrb : Hid (r.length ≤ 1073741824) := by show _ ≤ _; omega
      have HOWNR := hide hownr
      clear hcell HT HST hp hx hkidr hF hownr
      by_cases hk2 : kx = 3
      case neg =>
        have bk : (kx != 3) = true := bne_iff_ne.2 hk2
        have HE : Hid (T = none) := by
          show _ = _
          rw [HTS.out, show Js.cPoly xv o = none from Js.cList_not Js.cRing (by rw [← hkx]; exact hk2) o]
          rfl
        have HSD2 : Hid (SD (wo.setCell ⟨sb, 1, none⟩ (.bool true)) sb [] true o) := HI.out.sd.bad true
        have HO2 : Hid ((wo.setCell ⟨sb, 1, none⟩ (.bool true)).ownsRow w1.heap.size 33 1 (.slice ua r.length uc) r.length (r.map L2.v)) := own_set (a := ⟨sb, 1, none⟩) HI.out.own (own_row_ne HI.out.own HI.out.sd (by decide)) _
        have HNW : Hid (((wo.setCell ⟨sb, 1, none⟩ (.bool true)).alloc (.cells #[.slice none 0 0] 33)).heap[wo.heap.size]? = some (.cells #[.slice none 0 0] 33)) := by
          have := heap_alloc_new (wo.setCell ⟨sb, 1, none⟩ (.bool true)) (.cells #[.slice none 0 0] 33)
          simpa [Hid] using this
        have hsz := hide HI.out.fr.size
        clear hk2 hkx hrp hrowr hxok hxv HTS
        go_wp2
        go_loopw [7, 8] (fun qv jv wr => qv = .slice none 0 0 ∧ jv = .int .i64 0 ∧ wr = wo.setCell ⟨sb, 1, none⟩ (.bool true)) (fun _ _ _ => 0)
        case atStart => exact ⟨rfl, rfl, rfl⟩
        case round =>
          obtain ⟨rfl, rfl, rfl⟩ := hrel
          by_cases h0 : 0 < lnx
          all_goals
            go_wp2_with (at_builtin; refine wpList_app el_multi rfl (.tmp 98) (.tmp 100) rfl w1.heap.size _ _ _ (by rfl) (HO2.out.alloc _) wo.heap.size [.slice none 0 0] (by rfl) rfl HNW.out (by intro u hu; simp at hu; subst hu; rfl) hrb.out (by have := hsz.out; simp at this ⊢; omega) ?_; intro g5 cap5 w5 hown5 hg5 hat5 hlt5; have hq5 := hide (HI.out.step' (by omega) HSD2.out ((Fr.refl (· = sb) _).setCell (p := ⟨sb, 1, none⟩) rfl _) (xr := []) ⟨World.ownsRow_nil _ _ _ _, by simp⟩ (fun e => by simp at e) (by simp) hown5 hg5); clear hat5 hlt5 hown5 hg5)
            go_roundw
            case rel => exact ⟨i + 1, r ++ [⟨.slice none 0 0, []⟩], true, o, _, rfl, by go_num, by omega, by rw [List.length_append, HRI.out]; rfl, hq5, HE.out⟩
            case measure => simp [intOf]; omega
      obtain ⟨m2, rfl⟩ := Js.kd_lst (hkx ▸ hk2)
      subst hk2
      obtain ⟨-, acc2, la2, lc2, qs2, rfl, hql2, hq62, hrow2, hown2, hkids2⟩ := hxok.lst_
      clear y0 y4 hrp hkx hxok
      have y0 := hrow2.cell (i := 0) rfl
      have y4 := hrow2.cell (i := 4) rfl
      have HQL2 := hide hql2
      have HKIDS2 := hide hkids2
      have HOWN2 := hide hown2
      have HC2 : Hid (Js.cPoly (.lst (Js.ofM acc2)) o = Js.mapS (fun x o => Js.cRing x.2 o) acc2 o) := Js.mapV_ofM Js.cRing acc2 o
      obtain ⟨T2, hT2⟩ : ∃ T, T = Js.mapS (fun (x : List Int × Js.V) o => Js.cRing x.2 o) acc2 o := ⟨_, rfl⟩
      rw [← hT2] at HC2
      have HT20 : Hid (T2 = if false = true then none else Js.preS ([] : List Ring) (Js.mapS (fun (x : List Int × Js.V) o => Js.cRing x.2 o) (acc2.drop 0) o)) := by
        show _ = _
        rw [hT2, List.drop_zero]
        cases Js.mapS (fun (x : List Int × Js.V) o => Js.cRing x.2 o) acc2 o <;> rfl
      obtain ⟨wB, hwB⟩ : ∃ W, W = wo.setCell ⟨sb, 1, none⟩ (.bool false) := ⟨_, rfl⟩
      have HFB : Hid (Fr (· = sb) wo wB) := by rw [hwB]; exact (Fr.refl (· = sb) _).setCell (p := ⟨sb, 1, none⟩) rfl _
      have HSB : Hid (SD wB sb [] false o) := by rw [hwB]; exact HI.out.sd.bad false
      have HQ2 : Hid (Q2 wB wB sb (.slice none 0 0) [] [] false o) := Q2.start HSB.out (by simp)
      have HWB := hide hwB
      clear hql2 hkids2 hown2 hrow2 hT2 hwB hxv hrowr
      go_wp2
      rw [← HWB.out]
      go_loopw [7, 8] (fun qv jv wr => ∃ (j : Nat) (r2 : List L1) (bad2 o2 : Bool) (u2 : Value), u2 = qv ∧ jv = .int .i64 j ∧ j ≤ qs2.length ∧ r2.length = j ∧ Hid (Q2 wB wr sb u2 r2 [] bad2 o2) ∧ Hid (T2 = if bad2 = true then none else Js.preS (r2.map L1.r) (Js.mapS (fun (x : List Int × Js.V) o => Js.cRing x.2 o) (acc2.drop j) o2))) (fun _ jv _ => qs2.length - (intOf jv).toNat)
      case atStart => exact ⟨0, [], false, o, _, rfl, rfl, Nat.zero_le _, rfl, HQ2, HT20⟩
      case round =>
        obtain ⟨wi, hw⟩ : ∃ x, x = wr := ⟨_, rfl⟩
        subst hw
        obtain ⟨j, r2, bad2, o2, u2, rfl, rfl, hjl, hrj, HI2, HT2⟩ := hrel
        obtain ⟨va, vn, vc, rfl⟩ : ∃ a n c, u2 = .slice a n c := own_shape HI2.out.own
        obtain rfl : vn = r2.length := by obtain ⟨a, c, e⟩ := own_len HI2.out.own; cases e; rfl
        have HFoi : Hid (Fr (· = sb) wo wi) := HFB.out.trans HI2.out.fr
        have q4i := HFoi.out.cell q4 hne
        have hcii := HFoi.out.cell hci hgne
        have y4i := HFoi.out.cell y4 hpne
        have s1i := HI2.out.sd.c1
        have HRJ := hide hrj
        have HOA : Hid ((wi.alloc (.cells #[.slice va r2.length vc] 33)).ownsRow w1.heap.size 33 1 (.slice ua r.length uc) r.length (r.map L2.v)) := (own_fr HI.out.own HFoi.out fun g hg e => own_row_ne HI.out.own HI.out.sd (by decide) (e ▸ hg)).alloc _
        have hszi := hide (HI.out.fr.trans HFoi.out).size
        clear hrj q4 hci y4 s1 g1
        by_cases hjlt : j < qs2.length
        · cases bad2
          · obtain ⟨pj, hpj⟩ : ∃ p, qs2[j]? = some p := ⟨qs2[j], List.getElem?_eq_getElem _⟩
            have hsz1 := HHF.out.size
            have hkidi : Js.Ok (KT sb w) wi (Js.ofM acc2) qs2 := Js.Ok.of (fun b hb => HFoi.out.block b (by have := hb.1; omega) hb.2) (fun _ h => h) HKIDS2.out
            obtain ⟨⟨xn2, xv2⟩, hx2, hxok2, hxv2⟩ := (Js.Ok.kids hkidi).2 j pj hpj
            obtain ⟨g2, cap2, e, hcell2⟩ := own_cell (own_fr HOWN2.out HFoi.out fun g hg e => own_row_ne HOWN2.out HI.out.sd (by decide) (e ▸ hg)) (by omega)
            cases e
            have hcj : wi.cell? ⟨g2, j, none⟩ = some (.pointer (some ⟨pj, 0, none⟩)) := hcell2 j _ (by simp [hpj, Js.ptr])
            have hsz2 := HFoi.out.size
            have HRC := hide (dRing_any xv2 hxv2 pj sb o2 wi HI2.out.sd (hxok2.kt (by omega)))
            have HST2 := hide (Js.mapS_step (c := fun (x : List Int × Js.V) o => Js.cRing x.2 o) (r := r2.map L1.r) (o := o2) hx2)
            have HTS2 : Hid (T2 = (Js.cRing xv2 o2).bind fun y => Js.preS (r2.map L1.r ++ [y.1]) (Js.mapS (fun (x : List Int × Js.V) o => Js.cRing x.2 o) (acc2.drop (j + 1)) y.2)) := HT2.out.trans HST2.out
            clear hpj hkidi hx2 hxok2 hcell2 HT2 HST2
            go_wp2_with fail
            refine HRC.out.mono ?_
            rintro e w4 ⟨⟨xv, xr⟩, b4, o4, rfl, hx, h4, u4, p4⟩
            obtain ⟨xa, xn', xc, rfl⟩ : ∃ a n c, xv = .slice a n c := own_shape hx
            have HT3 : Hid (T2 = if b4 = true then none else Js.preS ((r2 ++ [(⟨.slice xa xn' xc, xr⟩ : L1)]).map L1.r) (Js.mapS (fun (x : List Int × Js.V) o => Js.cRing x.2 o) (acc2.drop (j + 1)) o4)) := by
              show _ = _
              rw [HTS2.out, p4, List.map_append]
              cases b4 <;> rfl
            have HO2 : Hid (w4.ownsRow wB.heap.size 30 1 (.slice va r2.length vc) r2.length (r2.map L1.v)) := own_fr HI2.out.own u4 fun g hg e => own_row_ne HI2.out.own HI2.out.sd (by decide) (e ▸ hg)
            have HOA2 := hide (HO2.out.alloc (.cells #[.slice xa xn' xc] 30))
            have HX := hide hx
            have HU4 := hide u4
            have H4 := hide h4
            have hrb2 : Hid (r2.length ≤ 1073741824) := by show _ ≤ _; rw [HRJ.out]; omega
            have hr26 : r2.length + 1 ≤ 6000 := by rw [HRJ.out]; omega
            have hsz4 := hide (HI2.out.fr.trans u4).size
            clear p4 hx u4 h4
            go_wp2_with (at_builtin; refine wpList_app el_rings rfl (.tmp 93) (.tmp 95) rfl wB.heap.size _ _ _ (by rfl) HOA2.out w4.heap.size [.slice xa xn' xc] (by rfl) rfl (heap_alloc_new w4 _) (by intro u hu; simp at hu; subst hu; rfl) hrb2.out (by have := hsz4.out; simp at this ⊢; omega) ?_; intro g5 cap5 w5 hown5 hg5 hat5 hlt5; have hq5 := hide (HI2.out.step' (by omega) H4.out HU4.out HX.out (fun _ => by simp; omega) (by simp) hown5 hg5); clear hat5 hlt5 hown5 hg5)
            go_roundw
            case rel => exact ⟨j + 1, r2 ++ [⟨.slice xa xn' xc, xr⟩], b4, o4, _, rfl, by go_num, by omega, by rw [List.length_append, HRJ.out]; rfl, hq5, HT3⟩
            case measure => simp [intOf]; omega
          · have HE : Hid (T = none) := by
              show _ = _
              rw [HTS.out, HC2.out, HT2.out]; rfl
            go_wp2_with (at_builtin; refine wpList_app el_multi rfl (.tmp 98) (.tmp 100) rfl w1.heap.size _ _ _ (by rfl) HOA.out wi.heap.size [.slice va r2.length vc] (by rfl) rfl (heap_alloc_new wi _) (by intro u hu; simp at hu; subst hu; rfl) hrb.out (by have := hszi.out; simp at this ⊢; omega) ?_; intro g5 cap5 w5 hown5 hg5 hat5 hlt5; have hq5 := hide (HI.out.step' (by omega) HI2.out.sd HFoi.out (xr := r2) ⟨own_base HI2.out.own (Nat.zero_le _), HI2.out.sub⟩ (fun _ => by simp; omega) (by simp) hown5 hg5); clear hat5 hlt5 hown5 hg5)
            go_roundw
            case rel => exact ⟨i + 1, r ++ [⟨.slice va r2.length vc, r2⟩], true, o2, _, rfl, by go_num, by omega, by rw [List.length_append, HRI.out]; rfl, hq5, HE.out⟩
            case measure => simp [intOf]; omega
        · have HE : Hid (T = if bad2 = true then none else Js.preS ((r ++ [(⟨.slice va r2.length vc, r2⟩ : L2)]).map L2.pts) (Js.mapS (fun (x : List Int × Js.V) o => Js.cPoly x.2 o) (acc.drop (i + 1)) o2)) := by
            have hja : j = acc2.length := by rw [← HQL2.out]; omega
            have h := HT2.out
            rw [hja, Js.mapS_end] at h
            show _ = _
            rw [HTS.out, HC2.out, h, List.map_append]
            cases bad2 <;> rfl
          go_wp2_with (at_builtin; refine wpList_app el_multi rfl (.tmp 98) (.tmp 100) rfl w1.heap.size _ _ _ (by rfl) HOA.out wi.heap.size [.slice va r2.length vc] (by rfl) rfl (heap_alloc_new wi _) (by intro u hu; simp at hu; subst hu; rfl) hrb.out (by have := hszi.out; simp at this ⊢; omega) ?_; intro g5 cap5 w5 hown5 hg5 hat5 hlt5; have hq5 := hide (HI.out.step' (by omega) HI2.out.sd HFoi.out (xr := r2) ⟨own_base HI2.out.own (Nat.zero_le _), HI2.out.sub⟩ (fun _ => by simp; omega) (by simp) hown5 hg5); clear hat5 hlt5 hown5 hg5)
          go_roundw
          case rel => exact ⟨i + 1, r ++ [(⟨.slice va r2.length vc, r2⟩ : L2)], bad2, o2, _, rfl, by go_num, by omega, by rw [List.length_append, HRI.out]; rfl, hq5, HE⟩
          case measure => simp [intOf]; omega
  · obtain ⟨hb, s, cv, nv, la, ln, lc, hrow⟩ := hv.node hi
    have HE := hide (Js.cList_not Js.cPoly hk wide)
    have hb3 : (Js.kd v != 3) = true := bne_iff_ne.2 hk
    obtain ⟨kv, hkv⟩ : ∃ k, k = Js.kd v := ⟨_, rfl⟩
    rw [← hkv] at hrow hb3
    have r0 := hrow.cell (i := 0) rfl
    have r4 := hrow.cell (i := 4) rfl
    obtain ⟨c0, c1, c2, f0, f1, f2⟩ := hs.facts
    have HS := hide hs
    have hne : b ≠ sb := hb.2
    have hne2 : sb ≠ b := fun e => hne e.symm
    clear hk hkv hrow hv hb hs c0 c2 f0 f2
    go_enter Tryz.func79, Tryz.ntmps79
    go_wp2
    go_loopw [5, 6] (fun lv iv wr => lv = .slice none 0 0 ∧ iv = .int .i64 0 ∧ wr = w.setCell ⟨sb, 1, none⟩ (.bool true)) (fun _ _ _ => 0)
    case atStart => exact ⟨rfl, rfl, rfl⟩
    case round =>
      obtain ⟨rfl, rfl, rfl⟩ := hrel
      by_cases h0 : 0 < ln
      · go_wp2
        go_ret
        exact ⟨nil3, true, wide, rfl, nil3_ok _, HS.out.bad true, (Fr.refl (· = sb) _).setCell (p := ⟨sb, 1, none⟩) rfl _, HE.out⟩
      · go_wp2
        go_ret
        exact ⟨nil3, true, wide, rfl, nil3_ok _, HS.out.bad true, (Fr.refl (· = sb) _).setCell (p := ⟨sb, 1, none⟩) rfl _, HE.out⟩
end Go.Proofs.YtcclepohmhdpbaaGreatDoor

/- THE DOCUMENT's JSON: Object. -/
namespace Go.Proofs.YtcclepohmhdpbaaGreatDoor
set_option linter.all false
open Go.RowKit Go.Deep

theorem Js.Rows.up {K : Nat → Prop} {w w' : World} {nv lv : Value} {ys : List Js.NC} {qs : List Nat} (h : Js.Rows K w nv lv ys qs) (u : Up w w') (hk : ∀ b, K b → b < w.heap.size) : Js.Rows K w' nv lv ys qs := h.of (fun b hb => u.block b (hk b hb)) (fun _ h => h)

set_option maxRecDepth 100000 in
set_option maxHeartbeats 16000000 in
theorem dObject_any (l : List UInt8) (w : World) (hl : l.length ≤ 6000) :
    Calls Tryz.prog 47 #[.string (bs l)] w (ReadPost (Js.err l) (Js.got l) w) := by
  unfold ReadPost
  obtain ⟨E, hE⟩ : ∃ E, E = Js.err l := ⟨_, rfl⟩
  obtain ⟨M, hM⟩ : ∃ M, M = Js.got l := ⟨_, rfl⟩
  rw [← hE, ← hM]
  have HEE := hide hE
  have HMM := hide hM
  clear hE hM
  go_enter Tryz.func47, Tryz.ntmps47
  go_wp2_with fail
  refine (dRead_any 6000 (Nat.le_refl _) l hl hl _).mono ?_
  rintro e w2 ⟨pv, t, rfl, u2, htl, hcase⟩
  have HB := hide (bare_any t)
  rcases hcase with ⟨hnone, rfl⟩ | ⟨v, b, hsome, rfl, hb, hok⟩
  · have hz : E = 3 := HEE.out.trans (Js.err_none (Js.set_none hnone))
    have HU := hide u2
    clear hnone u2 HEE
    subst hz
    go_wp2_with (go_at_call 70; refine (HB.out _).mono ?_; rintro e w1 ⟨rfl, hw⟩; replace hw := hw.symm; subst hw)
    go_ret2
    exact ⟨nil3, rfl, nil3_ok _, by simp, HU.out⟩
  have hiv := Js.rd_val hsome
  obtain ⟨rb, hrb⟩ : ∃ x, x = Tx.bare t := ⟨_, rfl⟩
  unfold Hid at HB
  rw [← hrb] at HB
  replace HB := hide HB
  obtain ⟨-, -, -, -, r4, -⟩ := bs_tells rb
  obtain ⟨-, sx, cvx, nvx, lax, lnx, lcx, hrowv⟩ := hok.node hiv
  have k0 := hrowv.cell (i := 0) rfl
  by_cases hk4 : Js.kd v = 4
  case neg =>
    have hz : E = 3 := HEE.out.trans (Js.err_none (Js.set_other hsome hk4))
    clear HEE
    subst hz
    obtain ⟨kv, hkv⟩ : ∃ k, k = Js.kd v := ⟨_, rfl⟩
    rw [← hkv] at k0 hk4
    have bk : (kv != 4) = true := bne_iff_ne.2 hk4
    have HU := hide u2
    by_cases hrb0 : rb = []
    · subst hrb0
      clear hsome u2 hok hrowv hk4 hkv hrb
      go_wp2_with (go_at_call 70; refine (HB.out _).mono ?_; rintro e w1 ⟨rfl, hw⟩; replace hw := hw.symm; subst hw)
      go_ret2
      exact ⟨nil3, rfl, nil3_ok _, by simp, HU.out⟩
    · have hremp : rb.isEmpty = false := by cases rb <;> simp_all
      clear hsome u2 hok hrowv hk4 hkv hrb
      go_wp2_with (go_at_call 70; refine (HB.out _).mono ?_; rintro e w1 ⟨rfl, hw⟩; replace hw := hw.symm; subst hw)
      go_ret2
      exact ⟨nil3, rfl, nil3_ok _, by simp, HU.out⟩
  obtain ⟨m, rfl⟩ := Js.kd_obj hk4
  obtain ⟨hbK, acc, nv, lv, ys, qs, rfl, hql, hrow, hR, hnm, hkids⟩ := hok.obj_
  have hset := Js.set_obj hsome
  by_cases hrb0 : rb = []
  case neg =>
    have hz : E = 3 := HEE.out.trans (Js.err_rest hset (by rw [← hrb]; exact hrb0))
    clear HEE
    subst hz
    have hremp : rb.isEmpty = false := by cases rb <;> simp_all
    have HU := hide u2
    clear hsome u2 hok hrowv hk4 hrb hset hrow hR hnm hkids
    go_wp2_with (go_at_call 70; refine (HB.out _).mono ?_; rintro e w1 ⟨rfl, hw⟩; replace hw := hw.symm; subst hw)
    go_ret2
    exact ⟨nil3, rfl, nil3_ok _, by simp, HU.out⟩
  subst hrb0
  have HANS := hide (Js.err_ans hset hrb.symm)
  rw [← HEE.out, ← HMM.out] at HANS
  clear HEE HMM
  have HU := hide u2
  have HROW := hide hrow
  have HR := hide hR
  have HNM := hide hnm
  have HKIDS := hide hkids
  have HQL := hide hql
  have c0 := hrow.cell (i := 0) rfl
  have HN1 := hide (fun (w' : World) (u : Up w2 w') => named_any [116, 121, 112, 101] (by simp) b acc nv lv ys qs _ w' (hrow.of_block (u.block _ hrow.lt)) ((hR.up u fun b hb => hb.2).of (fun _ _ => rfl) (fun b hb => by have h1 := hb.2; have h2 := u.size; exact Nat.lt_of_lt_of_le h1 h2)) hnm hql)
  have HN2 := hide (fun (w' : World) (u : Up w2 w') => named_any [99, 111, 111, 114, 100, 105, 110, 97, 116, 101, 115] (by simp) b acc nv lv ys qs _ w' (hrow.of_block (u.block _ hrow.lt)) ((hR.up u fun b hb => hb.2).of (fun _ _ => rfl) (fun b hb => by have h1 := hb.2; have h2 := u.size; exact Nat.lt_of_lt_of_le h1 h2)) hnm hql)
  clear hsome u2 hok hrowv hk4 hrb hset hrow hR hnm hkids hql k0 hiv
  go_wp2_with (go_at_call 70; refine (HB.out _).mono ?_; rintro e w1 ⟨rfl, hw⟩; replace hw := hw.symm; subst hw)
  refine (HN1.out _ (Up.refl _)).mono ?_
  rintro e w3 ⟨tv, rfl, hd3⟩
  obtain ⟨o1, ho1⟩ : ∃ o, o = Js.sel (Js.up [116, 121, 112, 101]) acc qs := ⟨_, rfl⟩
  rw [← ho1] at hd3
  have HO1 : Hid (Js.sel Js.typeN acc qs = o1) := ho1.symm
  obtain ⟨ta, tc, rfl⟩ := own_len hd3.own
  have HD3 := hide hd3
  clear hd3 ho1
  go_wp2_with fail
  refine (HN2.out _ HD3.out.up).mono ?_
  rintro e w4 ⟨cv, rfl, hd4⟩
  obtain ⟨o2, ho2⟩ : ∃ o, o = Js.sel (Js.up [99, 111, 111, 114, 100, 105, 110, 97, 116, 101, 115]) acc qs := ⟨_, rfl⟩
  rw [← ho2] at hd4
  have HO2 : Hid (Js.sel Js.listN acc qs = o2) := ho2.symm
  obtain ⟨ca, cc, rfl⟩ := own_len hd4.own
  have HD4 := hide hd4
  have HU4 : Hid (Up w2 w4) := HD3.out.up.trans hd4.up
  have HUW : Hid (Up w w4) := HU.out.trans HU4.out
  clear hd4 ho2
  by_cases hl1 : o1.length = 1
  case neg =>
    have hz : E = 3 := by rw [HANS.out.1, Js.answer_len1 (by rw [← Js.sel_named Js.typeN acc qs HQL.out, HO1.out]; exact hl1)]; rfl
    subst hz
    have bl : ((o1.length : Int) != 1) = true := bne_iff_ne.2 (by omega)
    clear hl1
    go_wp2
    go_ret2
    exact ⟨nil3, rfl, nil3_ok _, by simp, HUW.out⟩
  by_cases hl2 : o2.length = 1
  case neg =>
    have hz : E = 3 := by rw [HANS.out.1, Js.answer_len2 (by rw [← Js.sel_named Js.listN acc qs HQL.out, HO2.out]; exact hl2)]; rfl
    subst hz
    have bl : ((o2.length : Int) != 1) = true := bne_iff_ne.2 (by omega)
    have bl1 : ((o1.length : Int) != 1) = false := by rw [hl1]; rfl
    clear hl1 hl2
    go_wp2
    go_ret2
    exact ⟨nil3, rfl, nil3_ok _, by simp, HUW.out⟩
  obtain ⟨pt, rfl⟩ : ∃ p, o1 = [p] := List.length_eq_one_iff.1 hl1
  obtain ⟨pc, rfl⟩ : ∃ p, o2 = [p] := List.length_eq_one_iff.1 hl2
  obtain ⟨it, ⟨nt, vt⟩, hat, hqt, hnt, hnt2, hunt⟩ := Js.sel_one Js.typeN acc qs pt HQL.out HO1.out
  obtain ⟨ic, ⟨nc, vc⟩, hac, hqc, hnc, hnc2, hunc⟩ := Js.sel_one Js.listN acc qs pc HQL.out HO2.out
  have hkw4 : Js.Ok (fun b => w.heap.size ≤ b ∧ b < w2.heap.size) w4 (Js.ofM acc) qs := HKIDS.out.up HU4.out fun b hb => hb.2
  obtain ⟨xt, hxt, hokt, hivt⟩ := (Js.Ok.kids hkw4).2 it pt hqt
  obtain ⟨xc, hxc, hokc, hivc⟩ := (Js.Ok.kids hkw4).2 ic pc hqc
  obtain rfl : xt = (nt, vt) := Option.some.inj (hxt.symm.trans hat)
  obtain rfl : xc = (nc, vc) := Option.some.inj (hxc.symm.trans hac)
  obtain ⟨gt, capt, e, hct⟩ := own_cell (own_up HD3.out.own HD4.out.up) (by simp)
  cases e
  obtain ⟨gc, capc, e, hcc⟩ := own_cell HD4.out.own (by simp)
  cases e
  have t0 : w4.cell? ⟨gt, 0, none⟩ = some (.pointer (some ⟨pt, 0, none⟩)) := hct 0 _ rfl
  have t1 : w4.cell? ⟨gc, 0, none⟩ = some (.pointer (some ⟨pc, 0, none⟩)) := hcc 0 _ rfl
  obtain ⟨-, sx2, cvx2, nvx2, lax2, lnx2, lcx2, hrowt⟩ := hokt.node hivt
  have hlen1 : [pt].length = 1 := rfl
  have hlen2 : [pc].length = 1 := rfl
  clear hct hcc hl1 hl2 hxt hxc
  by_cases hk2 : Js.kd vt = 2
  case neg =>
    have hz : E = 3 := by rw [HANS.out.1, Js.answer_bad (Js.good_at hat (by rw [if_pos hnt]; exact Js.isTT_not hk2))]; rfl
    subst hz
    obtain ⟨kt, hkt⟩ : ∃ k, k = Js.kd vt := ⟨_, rfl⟩
    rw [← hkt] at hrowt hk2
    have z0 := hrowt.cell (i := 0) rfl
    have bk : (kt != 2) = true := bne_iff_ne.2 hk2
    clear hk2 hkt hrowt hokt hokc hkw4
    go_wp2
    go_ret2
    exact ⟨nil3, rfl, nil3_ok _, by simp, HUW.out⟩
  obtain ⟨c, rfl⟩ := Js.kd_txt hk2
  obtain ⟨tcv, hrowt2, hnct⟩ := hokt.txt_
  obtain ⟨sa, sn, sc, rfl⟩ : ∃ a n c, tcv = .slice a n c := own_shape hnct.own
  have z0 := hrowt2.cell (i := 0) rfl
  have z2 := hrowt2.cell (i := 2) rfl
  have HSP := hide (spells_any c [77, 117, 108, 116, 105, 80, 111, 108, 121, 103, 111, 110] _ _ w4 hnct.own hnct.len (by simp))
  have HKW4 := hide hkw4
  have HOKC := hide hokc
  have HRT := hide hrowt2
  obtain ⟨-, sx9, cvx9, nvx9, lax9, lnx9, lcx9, hrowc9⟩ := hokc.node hivc
  have HRC := hide hrowc9
  clear hrowc9
  clear hrowt hrowt2 hnct hokt hkw4 hokc hk2
  by_cases hcT : c = Js.typeT
  case neg =>
    have hz : E = 3 := by rw [HANS.out.1, Js.answer_bad (Js.good_at hat (by rw [if_pos hnt]; exact decide_eq_false hcT))]; rfl
    subst hz
    have HD : Hid (decide (c = Js.up [77, 117, 108, 116, 105, 80, 111, 108, 121, 103, 111, 110]) = false) := decide_eq_false hcT
    rw [HD.out] at HSP
    clear hcT
    go_wp2_with fail
    refine HSP.out.mono ?_
    rintro e w5 ⟨rfl, n5, rfl⟩
    go_wp2
    go_ret2
    exact ⟨nil3, rfl, nil3_ok _, by simp, HUW.out.drewN _⟩
  have HD : Hid (decide (c = Js.up [77, 117, 108, 116, 105, 80, 111, 108, 121, 103, 111, 110]) = true) := by rw [hcT]; rfl
  rw [HD.out] at HSP
  go_wp2_with fail
  refine HSP.out.mono ?_
  rintro e w5 ⟨rfl, n5, rfl⟩
  obtain ⟨la, lc, rfl⟩ := own_len HR.out.ownL
  have hrow4 := HROW.out.of_block (HU4.out.block _ HROW.out.lt)
  have b4 := hrow4.cell (i := 4) rfl
  have HSRT := hide (Js.Ok.sorted HKW4.out)
  have HTT : Hid (Js.isTT (.txt c) = true) := decide_eq_true hcT
  have HAT := hide hat
  have HAC := hide hac
  have HQT := hide hqt
  have HQC := hide hqc
  have HNT := hide hnt
  have HNC := hide hnc
  have HNT2 := hide hnt2
  have HNC2 := hide hnc2
  have HUNT := hide hunt
  have HUNC := hide hunc
  obtain ⟨gl, capl, e, hcl⟩ := own_cell (HR.out.up HU4.out fun b hb => hb.2).ownL (by
    rw [HQL.out]
    have := (List.getElem?_eq_some_iff.1 hat).1
    omega)
  cases e
  have HCL := hide hcl
  have hq6 : qs.length ≤ 6000 := HR.out.len
  clear hrow4 hcT hat hac hqt hqc hnt hnc hnt2 hnc2 hunt hunc hcl z0 z2 c0
  go_wp2
  go_loopw [9] (fun iv wr => ∃ i : Nat, i ≤ qs.length ∧ iv = .int .i64 i ∧ Hid (∀ (j : Nat) (x : List Int × Js.V), j < i → acc[j]? = some x → (if x.1 = Js.typeN then Js.isTT x.2 else if x.1 = Js.listN then true else decide (x.2.deep ≤ 16)) = true) ∧ ∃ q, wr = w4.drewN q) (fun iv _ => qs.length - (intOf iv).toNat)
  case atStart => exact ⟨0, Nat.zero_le _, rfl, fun j x hj => by omega, _, rfl⟩
  case round =>
    obtain ⟨i, hi, rfl, HOKS, n, rfl⟩ := hrel
    by_cases hlt : i < qs.length
    · obtain ⟨q, hq⟩ : ∃ p, qs[i]? = some p := ⟨qs[i], List.getElem?_eq_getElem _⟩
      obtain ⟨x, hx, hokx, hivx⟩ := (Js.Ok.kids HKW4.out).2 i q hq
      have ci : w4.cell? ⟨gl, i, none⟩ = some (.pointer (some ⟨q, 0, none⟩)) := HCL.out i _ (by simp [hq, Js.ptr])
      obtain ⟨-, sx3, cvx3, nvx3, lax3, lnx3, lcx3, hrowx⟩ := hokx.node hivx
      obtain ⟨D, hD⟩ : ∃ D, D = x.2.deep := ⟨_, rfl⟩
      rw [← hD] at hrowx
      have x5 := hrowx.cell (i := 5) rfl
      have HQI := hide hq
      have HXI := hide hx
      have HDD := hide hD
      have hnext : ∀ (h : (if x.1 = Js.typeN then Js.isTT x.2 else if x.1 = Js.listN then true else decide (x.2.deep ≤ 16)) = true) (j : Nat) (y : List Int × Js.V), j < i + 1 → acc[j]? = some y → (if y.1 = Js.typeN then Js.isTT y.2 else if y.1 = Js.listN then true else decide (y.2.deep ≤ 16)) = true := by
        intro h j y hj hy
        by_cases hji : j < i
        · exact HOKS.out j y hji hy
        · obtain rfl : j = i := by omega
          obtain rfl : y = x := Option.some.inj (hy.symm.trans HXI.out)
          exact h
      have HNEXT := hide hnext
      have HRX := hide hrowx
      have hsm : ∀ (m : Nat) (a : Addr), (binOp .neq 105 (.pointer (some a)) (.pointer (some a))).run Tryz.prog (w4.drewN m) = .ok (.bool false) (w4.drewN m) := fun m a => neq_same _ a
      clear hq hx hokx hivx hrowx hD hnext
      by_cases hqt : q = pt
      · have HG : Hid ((if x.1 = Js.typeN then Js.isTT x.2 else if x.1 = Js.listN then true else decide (x.2.deep ≤ 16)) = true) := by
          have hii : i = it := by
            by_cases h : i = it
            · exact h
            · exact absurd hqt (Js.sorted_ne HSRT.out HQI.out HQT.out h)
          subst hii
          obtain rfl : x = (nt, Js.V.txt c) := Option.some.inj (HXI.out.symm.trans HAT.out)
          show _ = _
          rw [if_pos HNT.out]
          exact HTT.out
        subst hqt
        go_wp2
        go_quiet (fail)
        go_wp2
        go_roundw
        case rel => exact ⟨i + 1, by omega, by go_num, HNEXT.out HG.out, _, rfl⟩
        case measure => simp [intOf]; omega
      · have hnt1 : ∀ m : Nat, (binOp .neq 105 (.pointer (some ⟨q, 0, none⟩)) (.pointer (some ⟨pt, 0, none⟩))).run Tryz.prog (w4.drewN m) = .ok (.bool true) (w4.drewN m) := fun m => neq_other _ hqt (VRow.drewN HRX.out m) (VRow.drewN HRT.out m)
        by_cases hqc : q = pc
        · have HG : Hid ((if x.1 = Js.typeN then Js.isTT x.2 else if x.1 = Js.listN then true else decide (x.2.deep ≤ 16)) = true) := by
            have hii : i = ic := by
              by_cases h : i = ic
              · exact h
              · exact absurd hqc (Js.sorted_ne HSRT.out HQI.out HQC.out h)
            subst hii
            obtain rfl : x = (nc, vc) := Option.some.inj (HXI.out.symm.trans HAC.out)
            show _ = _
            rw [if_neg (fun h => Js.listN_ne (HNC.out.symm.trans h)), if_pos HNC.out]
          subst hqc
          go_wp2
          go_quiet (fail)
          go_wp2
          go_roundw
          case rel => exact ⟨i + 1, by omega, by go_num, HNEXT.out HG.out, _, rfl⟩
          case measure => simp [intOf]; omega
        · have hnc1 : ∀ m : Nat, (binOp .neq 105 (.pointer (some ⟨q, 0, none⟩)) (.pointer (some ⟨pc, 0, none⟩))).run Tryz.prog (w4.drewN m) = .ok (.bool true) (w4.drewN m) := fun m => neq_other _ hqc (VRow.drewN HRX.out m) (VRow.drewN HRC.out m)
          have HX1 : Hid (x.1 ≠ Js.typeN) := fun h => by
            have h1 := HUNT.out i x HXI.out h
            rw [h1, HQT.out] at HQI
            exact hqt (Option.some.inj HQI.out).symm
          have HX2 : Hid (x.1 ≠ Js.listN) := fun h => by
            have h1 := HUNC.out i x HXI.out h
            rw [h1, HQC.out] at HQI
            exact hqc (Option.some.inj HQI.out).symm
          by_cases h16 : 16 < D
          · have hz : E = 3 := by
              rw [HANS.out.1, Js.answer_bad (Js.good_at HXI.out (by rw [if_neg HX1.out, if_neg HX2.out]; exact decide_eq_false (by rw [← HDD.out]; omega)))]; rfl
            subst hz
            have h16i : (16 : Int) < (D : Int) := by omega
            go_wp2
            go_quiet (fail)
            go_wp2
            go_ret2
            exact ⟨nil3, rfl, nil3_ok _, by simp, (HUW.out.drewN _).drewN _⟩
          · have HG : Hid ((if x.1 = Js.typeN then Js.isTT x.2 else if x.1 = Js.listN then true else decide (x.2.deep ≤ 16)) = true) := by
              show _ = _
              rw [if_neg HX1.out, if_neg HX2.out]
              exact decide_eq_true (by rw [← HDD.out]; omega)
            have h16i : ¬ (16 : Int) < (D : Int) := by omega
            go_wp2
            go_quiet (fail)
            go_wp2
            go_roundw
            case rel => exact ⟨i + 1, by omega, by go_num, HNEXT.out HG.out, _, rfl⟩
            case measure => simp [intOf]; omega
    · have HA : Hid (Js.answer acc = Js.cPolys vc false) := by
        refine Js.answer_good HNT2.out HNC2.out (Js.good_all fun j x hx => HOKS.out j x ?_ hx)
        have := (List.getElem?_eq_some_iff.1 hx).1
        rw [← HQL.out] at this
        omega
      have HSD : Hid (SD ((w4.drewN n).alloc (.cells #[.string ⟨#[]⟩, .bool false, .bool false] 102)) w4.heap.size [] false false) := VRow.new (w4.drewN n) [.string (bs []), .bool false, .bool false] _
      have HUA : Hid (Up w4 ((w4.drewN n).alloc (.cells #[.string ⟨#[]⟩, .bool false, .bool false] 102))) := ((Up.refl w4).drewN n).alloc _
      have t1A := HUA.out.cell t1
      have HPC := hide (dPolys_any vc hivc pc w4.heap.size false _ HSD.out (Js.Ok.of (fun b hb => HUA.out.block b (Nat.lt_of_lt_of_le hb.2 HU4.out.size)) (fun b hb => by
        have h1 := hb.2
        have h2 := HU4.out.size
        have h3 := HUA.out.size
        exact ⟨by omega, by omega⟩) HOKC.out))
      go_wp2_with fail
      refine HPC.out.mono ?_
      rintro e w6 ⟨⟨xv, ps⟩, bd, wd, rfl, hx, h6, u6, p6⟩
      obtain ⟨xa, xn, xc, rfl⟩ : ∃ a n c, xv = .slice a n c := own_shape hx.row
      have HU6 : Hid (Up w w6) := ((Fr.of_up ((HUW.out.drewN n).alloc _)).then u6 (T := (· = w4.heap.size)) (S := fun x => w.heap.size ≤ x) (fun x _ e => by have := HUW.out.size; omega)).up (fun x hx => by omega)
      have HX := hide hx
      have HP6 := hide p6
      have s1 := h6.c1
      have s2 := h6.c2
      clear hx u6 h6 p6
      have hans := HANS.out
      rw [HA.out, HP6.out] at hans
      have HANS2 := hide hans
      clear hans HANS
      cases bd
      · cases wd
        · have hz : E = 0 := HANS2.out.1
          subst hz
          go_wp2
          go_ret2
          exact ⟨⟨.slice xa xn xc, ps⟩, rfl, HX.out, (HANS2.out.2 _ _ rfl).symm, HU6.out⟩
        · have hz : E = 4 := HANS2.out.1
          subst hz
          go_wp2
          go_ret2
          exact ⟨nil3, rfl, nil3_ok _, by simp, HU6.out⟩
      · have hz : E = 3 := HANS2.out.1
        subst hz
        go_wp2
        go_ret2
        exact ⟨nil3, rfl, nil3_ok _, by simp, HU6.out⟩
end Go.Proofs.YtcclepohmhdpbaaGreatDoor

/- THE LAW: decoded, at one format. -/
namespace Go.Proofs.YtcclepohmhdpbaaGreatDoor
set_option linter.all false
open Go.RowKit Go.Deep

set_option maxRecDepth 100000 in
set_option maxHeartbeats 4000000 in
theorem decoded2_any (l : List UInt8) (w : World) (Wb : Nat) (hW : WR w Wb nv nv nv 0) (hb : l.length ≤ 1048576) :
    Calls Tryz.prog 23 #[.pointer (some ⟨Wb, 0, none⟩), .int .i64 2, .string (bs l)] w (DecPost (Js.got l) Wb w) := by
  have e0 := bs_size l
  have HW := hide hW
  have hWw := hide (VRow.lt hW)
  clear hW
  by_cases hlong : 6000 < l.length
  · have HD := hide (dec_long 2 l w (by decide) hlong hb)
    go_enter Tryz.func23, Tryz.ntmps23
    go_wp2_with (go_at_call 38; refine HD.out.mono ?_; rintro e w1 ⟨rfl, u1⟩; replace u1 := hide u1)
    go_ret
    exact ⟨rfl, .inl ⟨VRow.of_block HW.out (u1.out.block _ hWw.out), u1.out⟩⟩
  · have hl : l.length ≤ 6000 := by omega
    have HRP := hide (fun w => read2_any l w hl)
    have HRD := hide (fun w => dObject_any l w hl)
    have HBD := hide ((Js.got_ok hl).bd)
    obtain ⟨E, hE⟩ : ∃ E, E = Js.err l := ⟨_, rfl⟩
    obtain ⟨M, hM⟩ : ∃ M, M = Js.got l := ⟨_, rfl⟩
    rw [← hE, ← hM] at HRP HRD
    rw [← hM] at HBD ⊢
    clear hE hM
    by_cases hE0 : E = 0
    · subst hE0
      by_cases hw0 : Pl.wrong M = 0
      · have HD := hide (dec_ok 2 l w (by decide) hl M HBD.out hw0 HRP.out)
        have HW0 := hide hw0
        clear HRP hw0
        go_enter Tryz.func23, Tryz.ntmps23
        go_wp2_with fail
        refine HD.out.mono ?_
        rintro e w1 ⟨p, b, d, rfl, hs, hnew, u1⟩
        obtain ⟨rfl, -⟩ := id hs
        replace hs := hide hs
        replace hnew := hide hnew
        replace u1 := hide u1
        go_wp2_with fail
        refine (HRD.out _).mono ?_
        rintro e w2 ⟨⟨xv, ps⟩, rfl, hx, hm, u2⟩
        obtain ⟨xa, xn, xc, rfl⟩ : ∃ a n c, xv = .slice a n c := own_shape hx.row
        replace hm := hide (hm rfl)
        replace hx := hide hx
        replace u2 := hide u2
        go_wp2_with fail
        refine (wrong_any _ M _ (hm.out ▸ hx.out.rd) HBD.out).mono ?_
        rintro e w3 ⟨rfl, q, rfl⟩
        rw [HW0.out]
        have HU : Hid (Up w (w2.drewN q)) := ((u1.out.trans u2.out).drewN q)
        have HW3 : Hid (WR (w2.drewN q) Wb nv nv nv 0) := VRow.of_block HW.out (HU.out.block _ hWw.out)
        have HK := hide (keep_gen (w2.drewN q) Wb nv nv nv 0 [] HW3.out (World.ownsRow_nil _ _ _ _) (by simp) b xa xn xc)
        go_wp2_with fail
        refine HK.out.mono ?_
        rintro e w4 ⟨rfl, psv, hwr, hown, hfr, -⟩
        replace hwr := hide hwr
        replace hown := hide hown
        replace hfr := hide hfr
        go_wp2
        go_ret
        refine ⟨rfl, .inr ⟨psv, b, d, ⟨.slice xa xn xc, ps⟩, ?_⟩⟩
        have hfr' : Fr (· = Wb) (w2.drewN q) w4 := hfr.out.mono fun x _ e => by
          rcases e with e | e
          · exact e
          · cases e
        have hne : ∀ x ∈ b :: d.bl, x ≠ Wb := fun x hx e => by
          have h1 := hnew.out x hx
          have h2 := hWw.out
          omega
        have u12 : Up w1 (w2.drewN q) := u2.out.drewN q
        refine ⟨⟨hwr.out, hown.out, (hs.out.up' u12).fr hfr' hne, ?_, hm.out, HW0.out, hne, HBD.out⟩, (Fr.of_up HU.out).trans hfr'⟩
        exact (hx.out.up ((Up.refl w2).drewN q)).fr hfr' fun b hb e => (hx.out.up ((Up.refl w2).drewN q)).row_ne HW3.out (by decide) (by decide) (by decide) (e ▸ hb)
      · have HD := hide (dec_form 2 l w (by decide) hl M HBD.out hw0 HRP.out)
        have HW0 : (Pl.wrong M != 0) = true := bne_iff_ne.2 hw0
        obtain ⟨wm, hwm⟩ : ∃ x, x = Pl.wrong M := ⟨_, rfl⟩
        rw [← hwm] at HD HW0
        have HWM := hide hwm
        clear HRP hw0 hwm
        go_enter Tryz.func23, Tryz.ntmps23
        go_wp2_with fail
        refine HD.out.mono ?_
        rintro e w1 ⟨rfl, u1⟩
        replace u1 := hide u1
        go_wp2_with fail
        refine (HRD.out _).mono ?_
        rintro e w2 ⟨⟨xv, ps⟩, rfl, hx, hm, u2⟩
        obtain ⟨xa, xn, xc, rfl⟩ : ∃ a n c, xv = .slice a n c := own_shape hx.row
        replace hm := hide (hm rfl)
        replace hx := hide hx
        replace u2 := hide u2
        go_wp2_with fail
        refine (wrong_any _ M _ (hm.out ▸ hx.out.rd) HBD.out).mono ?_
        rintro e w3 ⟨rfl, q, rfl⟩
        rw [← HWM.out]
        have HU : Hid (Up w (w2.drewN q)) := ((u1.out.trans u2.out).drewN q)
        go_wp2
        go_ret
        exact ⟨rfl, .inl ⟨VRow.of_block HW.out (HU.out.block _ hWw.out), HU.out⟩⟩
    · have HD := hide (dec_bad 2 l w (by decide) hl E M hE0 HRP.out)
      have hE1 : (E == 0) = false := beq_eq_false_iff_ne.2 hE0
      have hE2 : (E != 0) = true := bne_iff_ne.2 hE0
      clear HRP hE0
      go_enter Tryz.func23, Tryz.ntmps23
      go_wp2_with fail
      refine HD.out.mono ?_
      rintro e w1 ⟨rfl, u1⟩
      replace u1 := hide u1
      go_wp2_with fail
      refine (HRD.out _).mono ?_
      rintro e w2 ⟨⟨xv, ps⟩, rfl, hx, hm, u2⟩
      obtain ⟨xa, xn, xc, rfl⟩ : ∃ a n c, xv = .slice a n c := own_shape hx.row
      have HU : Hid (Up w w2) := u1.out.trans u2
      clear hx hm u2
      go_wp2
      go_ret
      exact ⟨rfl, .inl ⟨VRow.of_block HW.out (HU.out.block _ hWw.out), HU.out⟩⟩
end Go.Proofs.YtcclepohmhdpbaaGreatDoor
