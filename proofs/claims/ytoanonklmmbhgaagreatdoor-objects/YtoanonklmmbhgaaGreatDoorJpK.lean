import Derived.Test.YtoanonklmmbhgaaGreatDoorJpF
import Derived.Test.YtoanonklmmbhgaaGreatDoorJpA
import Derived.Test.YtoanonklmmbhgaaGreatDoorDec
/- THE PROGRAM's JSON: coordinates, points. -/
namespace Go.Proofs.YtoanonklmmbhgaaGreatDoor
set_option linter.all false
open Go.RowKit Go.Deep

def JCooPost (l : List UInt8) (bad off : Bool) (rb : Nat) (w : World) (e : Ending) (w' : World) : Prop :=
  ∃ (x : Int) (l' : List UInt8) (bad' off' : Bool), e = .returned (.int .i64 x) ∧ RT w' rb l' bad' off' ∧ Fr (· = rb) w w' ∧ (if bad = true then none else Wt.coord false l off) = (if bad' = true then none else some (x, l', off')) ∧ l'.length ≤ l.length

set_option maxRecDepth 100000 in
set_option maxHeartbeats 4000000 in
theorem jcoo_any (l : List UInt8) (n : Nat) (HN : Hid (n = Tx.num false l)) (HBB : Hid (Tx.bare l = l)) (bad off : Bool) (rb : Nat) (w : World) (hr : RT w rb l bad off) (hl : l.length ≤ 6000) (hnl : n ≤ l.length) :
    Calls Tryz.prog 224 #[.pointer (some ⟨rb, 0, none⟩), .int .i64 n] w (JCooPost l bad off rb w) := by
  have HR := hide hr
  clear hr
  by_cases h0 : n = 0
  · subst h0
    have HE := hide (Wt.coord_none (p := false) (l := l) (o := off) (by rw [HBB.out, ← HN.out]))
    go_enter Tryz.func224, Tryz.ntmps224
    go_wp2_with fail
    refine (number_bad l bad off rb _ HR.out).mono ?_
    rintro e w1 ⟨rfl, h1, u1⟩
    replace h1 := hide h1
    replace u1 := hide u1
    go_wp2_with fail
    refine (unitsNil _).mono ?_
    rintro e w2 ⟨rfl, u2⟩
    replace u2 := hide u2
    go_wp2
    go_ret
    exact ⟨0, l, true, off, rfl, VRow.of_block h1.out (u2.out.block _ (VRow.lt h1.out)), u1.out.trans (Fr.of_up u2.out), by cases bad <;> simp [HE.out], Nat.le_refl _⟩
  · have HE := hide (Wt.coord_some (p := false) (l := l) (o := off) (by rw [HBB.out, ← HN.out]; exact h0))
    rw [HBB.out, ← HN.out] at HE
    have HSh : Hid (Du.Shape (l.take n)) := by
      rw [HN.out]
      exact Du.num_shape (by rw [← HN.out]; omega)
    have hsl : (l.take n).length ≤ 6000 := by rw [List.length_take]; omega
    have HUV := hide (Wt.unitsV_eq (l.take n))
    obtain ⟨x, hx⟩ : ∃ x, x = Wt.cv (l.take n) := ⟨_, rfl⟩
    obtain ⟨ok, hok⟩ : ∃ ok, ok = (Du.units (l.take n)).isNone := ⟨_, rfl⟩
    rw [← hx, ← hok] at HUV HE
    have hpos : 0 < n := by omega
    clear hx hok h0
    cases ok
    · go_enter Tryz.func224, Tryz.ntmps224
      go_wp2_with fail
      refine (number_ok l n bad off rb _ HR.out hl hpos hnl).mono ?_
      rintro e w1 ⟨rfl, h1, u1⟩
      replace h1 := hide h1
      replace u1 := hide u1
      go_wp2_with fail
      refine (pUnits_any _ HSh.out hsl _).mono ?_
      rintro e w2 ⟨rfl, u2⟩
      rw [HUV.out]
      replace u2 := hide u2
      go_wp2
      go_ret
      exact ⟨x, l.drop n, bad, off, rfl, VRow.of_block h1.out (u2.out.block _ (VRow.lt h1.out)), u1.out.trans (Fr.of_up u2.out), by cases bad <;> simp [HE.out], by simp⟩
    · go_enter Tryz.func224, Tryz.ntmps224
      go_wp2_with fail
      refine (number_ok l n bad off rb _ HR.out hl hpos hnl).mono ?_
      rintro e w1 ⟨rfl, h1, u1⟩
      replace h1 := hide h1
      replace u1 := hide u1
      go_wp2_with fail
      refine (pUnits_any _ HSh.out hsl _).mono ?_
      rintro e w2 ⟨rfl, u2⟩
      rw [HUV.out]
      have h2 : RT w2 rb (l.drop n) bad off := VRow.of_block h1.out (u2.block _ (VRow.lt h1.out))
      obtain ⟨-, -, d2, -, -, g2⟩ := h2.facts
      replace h2 := hide h2
      replace u2 := hide u2
      go_wp2
      go_ret
      exact ⟨x, l.drop n, bad, true, rfl, h2.out.off true, (u1.out.trans (Fr.of_up u2.out)).setCell (p := ⟨rb, 2, none⟩) rfl _, by cases bad <;> simp [HE.out], by simp⟩

set_option maxRecDepth 100000 in
set_option maxHeartbeats 4000000 in
theorem jcoordinate_any (l : List UInt8) (bad off : Bool) (rb : Nat) (w : World) (hr : RT w rb l bad off) (hl : l.length ≤ 6000) :
    Calls Tryz.prog 217 #[.pointer (some ⟨rb, 0, none⟩)] w (JCooPost l bad off rb w) := by
  have HB := hide (blanks_any l bad off rb w hr hl)
  have hbl := Tx.bare_le l
  have HCB := hide (Js.coord_bare false l off)
  have HBB := hide (Tx.bare_bare l)
  obtain ⟨s, hs⟩ : ∃ s, s = Tx.bare l := ⟨_, rfl⟩
  rw [← hs] at HB hbl HCB HBB
  have hs6 : s.length ≤ 6000 := by omega
  obtain ⟨n, hn⟩ : ∃ n, n = Tx.num false s := ⟨_, rfl⟩
  have hnl : n ≤ s.length := by rw [hn]; exact Tx.num_le false s
  have HN := hide hn
  have HNL := hide (fun w => numberLength_any s w hs6)
  rw [← hn] at HNL
  clear hs hn hr
  go_enter Tryz.func217, Tryz.ntmps217
  go_wp2_with fail
  refine HB.out.mono ?_
  rintro e w1 ⟨n1, rfl, -, h1, u1⟩
  have c0 := h1.c0
  replace h1 := hide h1
  replace u1 := hide u1
  go_wp2_with (first
    | (go_at_call 166; refine (HNL.out _).mono ?_; rintro e w2 ⟨rfl, hw⟩; replace hw := hw.symm; subst hw)
    | (go_at_call 224; fail))
  refine (jcoo_any s n HN HBB bad off rb _ h1.out hs6 hnl).mono ?_
  rintro e w3 ⟨x, l3, b3, o3, rfl, h3, u3, p3, hl3⟩
  rw [HCB.out] at p3
  replace h3 := hide h3
  replace u3 := hide u3
  replace p3 := hide p3
  go_wp2
  go_ret
  exact ⟨x, l3, b3, o3, rfl, h3.out, u1.out.trans u3.out, p3.out, by omega⟩

theorem Js.pt_of {l lx ly : List UInt8} {o ox oy bad b1 b2 b3 b4 b5 : Bool} {x y : Int} (h1 : b1 = (bad || !Tx.pre [91] (Tx.bare l))) (p2 : (if b1 = true then none else Wt.coord false (Tx.aft [91] (Tx.bare l)) o) = (if b2 = true then none else some (x, lx, ox))) (h3 : b3 = (b2 || !Tx.pre [44] (Tx.bare lx)))
    (p4 : (if b3 = true then none else Wt.coord false (Tx.aft [44] (Tx.bare lx)) ox) = (if b4 = true then none else some (y, ly, oy))) (h5 : b5 = (b4 || !Tx.pre [93] (Tx.bare ly))) :
    (if bad = true then none else Js.pt l o) = (if b5 = true then none else some ((x, y), Tx.aft [93] (Tx.bare ly), oy)) := by
  unfold Js.pt
  subst h1 h3 h5
  cases bad
  · simp only [Bool.false_or, Bool.false_eq_true, if_false] at p2 ⊢
    cases hp : Tx.pre [91] (Tx.bare l)
    · simp only [hp, Bool.not_false, if_true, Bool.false_eq_true, if_false] at p2 ⊢
      cases b2
      · cases p2
      · simp at p4
        cases b4
        · cases p4
        · simp
    · simp only [hp, Bool.not_true, Bool.false_eq_true, if_false, if_true] at p2 ⊢
      rw [p2]
      cases b2
      · simp only [Bool.false_eq_true, if_false, Option.bind_some, Bool.false_or] at p4 ⊢
        cases hp2 : Tx.pre [44] (Tx.bare lx)
        · simp only [hp2, Bool.not_false, if_true] at p4
          cases b4
          · cases p4
          · simp
        · simp only [hp2, Bool.not_true, Bool.false_eq_true, if_false, if_true] at p4 ⊢
          rw [p4]
          cases b4
          · simp only [Bool.false_eq_true, if_false, Option.bind_some, Bool.false_or]
            cases Tx.pre [93] (Tx.bare ly) <;> simp
          · simp
      · simp at p4
        cases b4
        · cases p4
        · simp
  · simp only [Bool.true_or, if_true] at p2 ⊢
    cases b2
    · cases p2
    · simp at p4
      cases b4
      · cases p4
      · simp

theorem ret_jpt {a : Act} {W : World} {Q : Ending → World → Prop} {b : Nat} {v0 v1 : Value} (h4 : a.tmps.getD 2 undef = .pointer (some ⟨b, 0, none⟩)) (hd : a.defers = []) (hrow : VRow W b 91 [v0, v1])
    (hQ : Q (.returned (.agg #[v0, v1])) W) : bodyPost Tryz.prog Tryz.f205 Q .ret a W := by
  refine bodyPost_ret (v := .agg #[v0, v1]) ?_ hd hQ
  rw [results_cell Tryz.results205, h4]
  simp only [asAddr, Sem.run_pure, Result.andThen_ok]
  exact load_pt hrow

def JPtPost (l : List UInt8) (bad off : Bool) (rb : Nat) (w : World) (e : Ending) (w' : World) : Prop :=
  ∃ (x y : Int) (l' : List UInt8) (bad' off' : Bool), e = .returned (.agg #[.int .i64 x, .int .i64 y]) ∧ RT w' rb l' bad' off' ∧ Fr (· = rb) w w' ∧ ((if bad = true then none else Js.pt l off) = (if bad' = true then none else some ((x, y), l', off')) ∧ (bad' = false → l'.length + 1 ≤ l.length)) ∧ l'.length ≤ 6000

set_option maxRecDepth 100000 in
set_option maxHeartbeats 4000000 in
theorem jpoint_any (l : List UInt8) (bad off : Bool) (rb : Nat) (w : World) (hr : RT w rb l bad off) (hl : l.length ≤ 6000) :
    Calls Tryz.prog 205 #[.pointer (some ⟨rb, 0, none⟩)] w (JPtPost l bad off rb w) := by
  have HRA : Hid (RT (w.alloc (.cells #[.int .i64 0, .int .i64 0] 91)) rb l bad off) := VRow.alloc hr _
  have hrl := hide (VRow.lt hr)
  have HV := hide (VRow.new w [.int .i64 0, .int .i64 0] 91)
  clear hr
  have hle1 : (Tx.aft [91] (Tx.bare l)).length ≤ l.length := Nat.le_trans (Tx.aft_le _ _) (Tx.bare_le l)
  go_enter Tryz.func205, Tryz.ntmps205
  go_wp2_with fail
  refine (need_any [91] l bad off rb _ HRA.out hl (by simp)).mono ?_
  rintro e w1 ⟨rfl, h1, u1⟩
  obtain ⟨b1, hb1⟩ : ∃ b, b = (bad || !Tx.pre [91] (Tx.bare l)) := ⟨_, rfl⟩
  obtain ⟨l1, hl1⟩ : ∃ t, t = Tx.aft [91] (Tx.bare l) := ⟨_, rfl⟩
  rw [← hb1, ← hl1] at h1
  rw [← hl1] at hle1
  rw [← hb1]
  have HB1 := hide hb1
  have HL1 := hide hl1
  replace h1 := hide h1
  replace u1 := hide u1
  clear hb1 hl1
  go_wp2_with fail
  refine (jcoordinate_any l1 b1 off rb _ h1.out (by omega)).mono ?_
  rintro e w2 ⟨x, lx, b2, ox, rfl, h2, u2, p2, hl2⟩
  have hlx : lx.length ≤ 6000 := by omega
  have hle3 : (Tx.aft [44] (Tx.bare lx)).length ≤ lx.length := Nat.le_trans (Tx.aft_le _ _) (Tx.bare_le lx)
  replace h2 := hide h2
  replace u2 := hide u2
  replace p2 := hide p2
  go_wp2_with fail
  refine (need_any [44] lx b2 ox rb _ h2.out hlx (by simp)).mono ?_
  rintro e w3 ⟨rfl, h3, u3⟩
  obtain ⟨b3, hb3⟩ : ∃ b, b = (b2 || !Tx.pre [44] (Tx.bare lx)) := ⟨_, rfl⟩
  obtain ⟨l3, hl3⟩ : ∃ t, t = Tx.aft [44] (Tx.bare lx) := ⟨_, rfl⟩
  rw [← hb3, ← hl3] at h3
  rw [← hl3] at hle3
  rw [← hb3]
  have HB3 := hide hb3
  have HL3 := hide hl3
  replace h3 := hide h3
  replace u3 := hide u3
  clear hb3 hl3
  go_wp2_with fail
  refine (jcoordinate_any l3 b3 ox rb _ h3.out (by omega)).mono ?_
  rintro e w4 ⟨y, ly, b4, oy, rfl, h4, u4, p4, hl4⟩
  have hly : ly.length ≤ 6000 := by omega
  have hle5 : (Tx.aft [93] (Tx.bare ly)).length ≤ ly.length := Nat.le_trans (Tx.aft_le _ _) (Tx.bare_le ly)
  replace h4 := hide h4
  replace u4 := hide u4
  replace p4 := hide p4
  go_wp2_with fail
  refine (need_any [93] ly b4 oy rb _ h4.out hly (by simp)).mono ?_
  rintro e w5 ⟨rfl, h5, u5⟩
  have HP : Hid ((if bad = true then none else Js.pt l off) = (if (b4 || !Tx.pre [93] (Tx.bare ly)) = true then none else some ((x, y), Tx.aft [93] (Tx.bare ly), oy))) := by
    have q2 := p2.out
    have q4 := p4.out
    rw [HL1.out] at q2
    rw [HL3.out] at q4
    exact Js.pt_of HB1.out q2 HB3.out q4 rfl
  obtain ⟨b5, hb5⟩ : ∃ b, b = (b4 || !Tx.pre [93] (Tx.bare ly)) := ⟨_, rfl⟩
  obtain ⟨l5, hl5⟩ : ∃ t, t = Tx.aft [93] (Tx.bare ly) := ⟨_, rfl⟩
  rw [← hb5, ← hl5] at h5 HP
  rw [← hl5] at hle5
  rw [← hb5]
  have HF : Hid (Fr (· = rb) (w.alloc (.cells #[.int .i64 0, .int .i64 0] 91)) w5) := (((u1.out.trans u2.out).trans u3.out).trans u4.out).trans u5
  have hne : w.heap.size ≠ rb := by have := hrl.out; omega
  have hv4 := HF.out.row HV.out hne
  have v0 := hv4.cell (i := 0) rfl
  have v1 := hv4.cell (i := 1) rfl
  have g0 := hv4.frozen 0
  have g1 := hv4.frozen 1
  have HV4 := hide hv4
  replace h5 := hide h5
  clear u5 hv4 hb5 hl5
  go_wp2
  refine ret_jpt rfl rfl ((HV4.out.set 0 _).set 1 _) ⟨x, y, l5, b5, oy, rfl, VRow.setOther (VRow.setOther h5.out (a := ⟨w.heap.size, 0, none⟩) (fun e => hne e.symm) _) (a := ⟨w.heap.size, 1, none⟩) (fun e => hne e.symm) _, (((Fr.of_up ((Up.refl w).alloc _)).trans HF.out).setNew (p := ⟨w.heap.size, 0, none⟩) (Nat.le_refl _) _).setNew (p := ⟨w.heap.size, 1, none⟩) (Nat.le_refl _) _, ⟨HP.out, fun e => ?_⟩, by omega⟩
  have h := HP.out
  rw [e] at h
  cases bad
  · exact (Js.pt_lt h).1
  · simp at h
end Go.Proofs.YtoanonklmmbhgaaGreatDoor

/- THE PROGRAM's JSON, READ: ring. -/
namespace Go.Proofs.YtoanonklmmbhgaaGreatDoor
set_option linter.all false
open Go.RowKit Go.Deep

def jRgPost (l : List UInt8) (bad0 off0 : Bool) (rb : Nat) (w : World) (e : Ending) (w' : World) : Prop :=
  ∃ (x : L1) (l' : List UInt8) (bad off : Bool), e = .returned x.v ∧ x.ok w' ∧ RT w' rb l' bad off ∧ Fr (· = rb) w w' ∧ (if bad0 = true then none else Js.ring l off0) = (if bad = true then none else some (x.r, l', off)) ∧ l'.length ≤ 6000

set_option maxRecDepth 100000 in
set_option maxHeartbeats 4000000 in
theorem jRg_any (l : List UInt8) (bad0 off0 : Bool) (rb : Nat) (w : World) (hr : RT w rb l bad0 off0) (hl : l.length ≤ 6000) :
    Calls Tryz.prog 189 #[.pointer (some ⟨rb, 0, none⟩)] w (jRgPost l bad0 off0 rb w) := by
  have HR := hide hr
  clear hr
  go_enter Tryz.func189, Tryz.ntmps189
  go_wp2_with fail
  refine (begin_any 91 93 l bad0 off0 rb _ HR.out hl).mono ?_
  rintro e w1 ⟨l1, b1, more1, rfl, h1, u1, hl1, hm1, hm2⟩
  have HT1 := hide (fun h => And.intro (hm1 h).1 (And.intro (hm1 h).2.1 ((hm1 h).2.2.1 _ Js.pt off0)))
  have HT2 := hide (fun h => (hm2 h).1 _ Js.pt off0)
  have HQ := hide (P1.start h1 (Nat.le_trans hl1 hl))
  have HF1 := hide u1
  clear h1 u1 hm1 hm2
  go_wp2_with fail
  go_loopw [3, 4] (fun v mv wr => ∃ (k : Nat) (r : List Pnt) (l' : List UInt8) (bad off more : Bool) (u : Value), u = v ∧ mv = .bool more ∧ Hid (P1 w1 wr rb u r l' bad off) ∧ Hid (more = true → bad = false ∧ l'.length ≤ k ∧ (if bad0 = true then none else Js.ring l off0) = Bn.pre r (Js.items 93 Js.pt (k + 1) l' off)) ∧ Hid (more = false → (if bad0 = true then none else Js.ring l off0) = if bad = true then none else some (r, l', off))) (fun v _ _ => 7000 - lenS v)
  case atStart => exact ⟨(Tx.bare l).length, [], l1, b1, off0, more1, _, rfl, rfl, HQ, HT1.out, HT2.out⟩
  case round =>
    obtain ⟨wo, hw⟩ : ∃ x, x = wr := ⟨_, rfl⟩
    subst hw
    obtain ⟨k, r, l2, bad, off, more, v, rfl, rfl, HI, H1, H2⟩ := hrel
    have hl2 := HI.out.rest
    obtain ⟨va, vn, vc, rfl⟩ : ∃ a n c, v = .slice a n c := own_shape HI.out.own
    obtain rfl : vn = r.length := by obtain ⟨a, c, e⟩ := own_len HI.out.own; cases e; rfl
    cases more
    · have HE := hide (H2.out rfl)
      clear H1 H2
      go_wp2
      go_ret
      exact ⟨⟨_, _⟩, l2, bad, off, rfl, own_base HI.out.own (Nat.zero_le _), HI.out.sd, HF1.out.trans HI.out.fr, HE.out, hl2⟩
    · obtain ⟨hbf, hk, HT2⟩ := H1.out rfl
      subst hbf
      have hs6 := HI.out.sum rfl
      replace HT2 := hide HT2
      clear H1 H2
      go_wp2_with fail
      refine (jpoint_any l2 false off rb _ HI.out.sd hl2).mono ?_
      rintro e w4 ⟨x, y, l4, b4, o4, rfl, h4, u4, hp, hl4⟩
      have HP := hide hp
      obtain ⟨wA, hwA⟩ : ∃ wA, wA = w4.alloc (.cells #[.int .i64 x, .int .i64 y] 91) := ⟨_, rfl⟩
      have hnA := VRow.new w4 [.int .i64 x, .int .i64 y] 91
      have HF : Hid (Fr (· = rb) wo wA) := by rw [hwA]; exact u4.alloc _
      replace h4 : Hid (RT wA rb l4 b4 o4) := by rw [hwA]; exact VRow.alloc h4 _
      have n0 := hnA.cell (i := 0) rfl
      have n1 := hnA.cell (i := 1) rfl
      have HO : Hid (wA.ownsRow w1.heap.size 91 2 (.slice va r.length vc) r.length (flat r)) := own_fr HI.out.own HF.out fun g hg e => own_row_ne HI.out.own HI.out.sd (by decide) (e ▸ hg)
      have HOA := hide (HO.out.alloc (.cells #[.int .i64 x, .int .i64 y] 91))
      have HNW : Hid (((w4.alloc (.cells #[.int .i64 x, .int .i64 y] 91)).alloc (.cells #[.int .i64 x, .int .i64 y] 91)).heap[w4.heap.size + 1]? = some (.cells #[.int .i64 x, .int .i64 y] 91)) := by
        have := heap_alloc_new (w4.alloc (.cells #[.int .i64 x, .int .i64 y] 91)) (.cells #[.int .i64 x, .int .i64 y] 91)
        simpa [Hid] using this
      clear u4 hp hnA
      subst hwA
      have hrb : Hid (r.length ≤ 1073741824) := by show _ ≤ _; omega
      have hsz := hide (HI.out.fr.trans HF.out).size
      have HLT : Hid (b4 = false → r.length + 1 + l4.length ≤ 6000) := fun e => by
        have h7 := HP.out.2 e
        omega
      go_wp2_with (first | (at_builtin; refine wpList_app el_pt rfl (.tmp 13) (.tmp 15) rfl w1.heap.size _ _ _ (by rfl) HOA.out (w4.heap.size + 1) [.int .i64 x, .int .i64 y] (by rfl) rfl HNW.out (by intro u hu; simp at hu; rcases hu with rfl | rfl <;> rfl) hrb.out (by have := hsz.out; simp at this ⊢; omega) ?_; intro g cap w5 hown5 hg5 hat5 hlt5; have hq5 := hide (HI.out.step' (by omega) h4.out HF.out HLT.out hl4 hown5 hg5); clear hat5 hlt5 hown5 hg5) | (go_at_call 126; fail))
      have HG := Js.go_on (e := 93) (bad := false) HT2.out HP.out.1
      obtain ⟨hg1, hg2⟩ := HG
      replace hg1 := hide hg1
      replace hg2 := hide hg2
      refine (nextE_any 93 l4 b4 o4 rb _ hq5.out.sd hl4).mono ?_
      rintro e w6 ⟨l6, b6, rfl, h6, u6, hl6, hn1, hn2⟩
      obtain ⟨M, hM⟩ : ∃ M, M = (!b4 && Tx.pre [44] (Tx.bare l4)) := ⟨_, rfl⟩
      rw [← hM] at hn1 hn2 hg1 hg2 ⊢
      have hq6 := hide (hq5.out.sd' h6 u6 hl6 (more_bad hM (fun h => (hn2 h).1) ))
      replace hn1 := hide hn1
      replace hn2 := hide hn2
      have HMM := hide hM
      clear h6 u6 hM
      go_wp2
      go_roundw
      case rel =>
        refine ⟨k - 1, r ++ [(x, y)], l6, b6, o4, M, _, rfl, rfl, hq6, fun e => ?_, fun e => ?_⟩
        · obtain ⟨a1, a2⟩ := hn1.out e
          have a3 := hg1.out e
          have a4 : b4 = false ∧ Tx.pre [44] (Tx.bare l4) = true := more_and (HMM.out.symm.trans e)
          have a5 := Wt.aft_len a4.2
          have a6 := Tx.bare_le l4
          have a7 := HP.out.2 a4.1
          rw [← a2] at a3 a5
          refine ⟨a1, by omega, ?_⟩
          rw [show k - 1 + 1 = k by omega]
          exact a3
        · obtain ⟨a1, a2⟩ := hn2.out e
          have a3 := hg2.out e
          rw [← a1] at a3
          rw [a3]
          cases b6
          · first
            | (rw [a2 rfl]; done)
            | (rw [a2 rfl]; rfl)
          · rfl
      case measure => simp [lenS]; omega
end Go.Proofs.YtoanonklmmbhgaaGreatDoor

/- THE PROGRAM's JSON, READ: polygon. -/
namespace Go.Proofs.YtoanonklmmbhgaaGreatDoor
set_option linter.all false
open Go.RowKit Go.Deep

def jPlPost (l : List UInt8) (bad0 off0 : Bool) (rb : Nat) (w : World) (e : Ending) (w' : World) : Prop :=
  ∃ (x : L2) (l' : List UInt8) (bad off : Bool), e = .returned x.v ∧ x.ok w' ∧ RT w' rb l' bad off ∧ Fr (· = rb) w w' ∧ (if bad0 = true then none else Js.poly l off0) = (if bad = true then none else some (x.pts, l', off)) ∧ l'.length ≤ 6000

set_option maxRecDepth 100000 in
set_option maxHeartbeats 4000000 in
theorem jPl_any (l : List UInt8) (bad0 off0 : Bool) (rb : Nat) (w : World) (hr : RT w rb l bad0 off0) (hl : l.length ≤ 6000) :
    Calls Tryz.prog 162 #[.pointer (some ⟨rb, 0, none⟩)] w (jPlPost l bad0 off0 rb w) := by
  have HR := hide hr
  clear hr
  go_enter Tryz.func162, Tryz.ntmps162
  go_wp2_with fail
  refine (begin_any 91 93 l bad0 off0 rb _ HR.out hl).mono ?_
  rintro e w1 ⟨l1, b1, more1, rfl, h1, u1, hl1, hm1, hm2⟩
  have HT1 := hide (fun h => And.intro (hm1 h).1 (And.intro (hm1 h).2.1 ((hm1 h).2.2.1 _ Js.ring off0)))
  have HT2 := hide (fun h => (hm2 h).1 _ Js.ring off0)
  have HQ := hide (P2.start h1 (Nat.le_trans hl1 hl))
  have HF1 := hide u1
  clear h1 u1 hm1 hm2
  go_wp2_with fail
  go_loopw [3, 4] (fun v mv wr => ∃ (k : Nat) (r : List L1) (l' : List UInt8) (bad off more : Bool) (u : Value), u = v ∧ mv = .bool more ∧ Hid (P2 w1 wr rb u r l' bad off) ∧ Hid (more = true → bad = false ∧ l'.length ≤ k ∧ (if bad0 = true then none else Js.poly l off0) = Bn.pre (r.map L1.r) (Js.items 93 Js.ring (k + 1) l' off)) ∧ Hid (more = false → (if bad0 = true then none else Js.poly l off0) = if bad = true then none else some ((r.map L1.r), l', off))) (fun v _ _ => 7000 - lenS v)
  case atStart => exact ⟨(Tx.bare l).length, [], l1, b1, off0, more1, _, rfl, rfl, HQ, HT1.out, HT2.out⟩
  case round =>
    obtain ⟨wo, hw⟩ : ∃ x, x = wr := ⟨_, rfl⟩
    subst hw
    obtain ⟨k, r, l2, bad, off, more, v, rfl, rfl, HI, H1, H2⟩ := hrel
    have hl2 := HI.out.rest
    obtain ⟨va, vn, vc, rfl⟩ : ∃ a n c, v = .slice a n c := own_shape HI.out.own
    obtain rfl : vn = r.length := by obtain ⟨a, c, e⟩ := own_len HI.out.own; cases e; rfl
    cases more
    · have HE := hide (H2.out rfl)
      clear H1 H2
      go_wp2
      go_ret
      exact ⟨⟨_, _⟩, l2, bad, off, rfl, ⟨own_base HI.out.own (Nat.zero_le _), HI.out.sub⟩, HI.out.sd, HF1.out.trans HI.out.fr, HE.out, hl2⟩
    · obtain ⟨hbf, hk, HT2⟩ := H1.out rfl
      subst hbf
      have hs6 := HI.out.sum rfl
      replace HT2 := hide HT2
      clear H1 H2
      go_wp2_with fail
      refine (jRg_any l2 false off rb _ HI.out.sd hl2).mono ?_
      rintro e w4 ⟨⟨xv, xr⟩, l4, b4, o4, rfl, hx, h4, u4, p4, hl4⟩
      obtain ⟨xa, xn, xc, rfl⟩ : ∃ a n c, xv = .slice a n c := own_shape hx
      have HP : Hid ((if false = true then none else Js.ring l2 off) = (if b4 = true then none else some (xr, l4, o4)) ∧ (b4 = false → l4.length + 1 ≤ l2.length)) := by
        refine ⟨p4, fun e => ?_⟩
        rw [e] at p4
        exact (Js.ring_lt p4).1
      have HF : Hid (Fr (· = rb) wo w4) := u4
      have HO : Hid (w4.ownsRow w1.heap.size 88 1 (.slice va r.length vc) r.length (r.map L1.v)) := own_fr HI.out.own HF.out fun g hg e => own_row_ne HI.out.own HI.out.sd (by decide) (e ▸ hg)
      have HOA := hide (HO.out.alloc (.cells #[.slice xa xn xc] 88))
      have HX := hide hx
      replace h4 := hide h4
      clear u4 p4 hx
      have hrb : Hid (r.length ≤ 1073741824) := by show _ ≤ _; omega
      have hsz := hide (HI.out.fr.trans HF.out).size
      have HLT : Hid (b4 = false → r.length + 1 + l4.length ≤ 6000) := fun e => by
        have h7 := HP.out.2 e
        omega
      go_wp2_with (first | (at_builtin; refine wpList_app el_rings rfl (.tmp 13) (.tmp 15) rfl w1.heap.size _ _ _ (by rfl) HOA.out _ [.slice xa xn xc] (by rfl) rfl (heap_alloc_new _ _) (by intro u hu; simp at hu; subst hu; rfl) hrb.out (by have := hsz.out; simp at this ⊢; omega) ?_; intro g cap w5 hown5 hg5 hat5 hlt5; have hq5 := hide (HI.out.step' (by omega) h4.out HF.out HX.out HLT.out hl4 hown5 hg5); clear hat5 hlt5 hown5 hg5) | (go_at_call 126; fail))
      have HG := Js.go_on (e := 93) (bad := false) HT2.out HP.out.1
      obtain ⟨hg1, hg2⟩ := HG
      replace hg1 := hide hg1
      replace hg2 := hide hg2
      refine (nextE_any 93 l4 b4 o4 rb _ hq5.out.sd hl4).mono ?_
      rintro e w6 ⟨l6, b6, rfl, h6, u6, hl6, hn1, hn2⟩
      obtain ⟨M, hM⟩ : ∃ M, M = (!b4 && Tx.pre [44] (Tx.bare l4)) := ⟨_, rfl⟩
      rw [← hM] at hn1 hn2 hg1 hg2 ⊢
      have hq6 := hide (hq5.out.sd' h6 u6 hl6 (more_bad hM (fun h => (hn2 h).1) ))
      replace hn1 := hide hn1
      replace hn2 := hide hn2
      have HMM := hide hM
      clear h6 u6 hM
      go_wp2
      go_roundw
      case rel =>
        refine ⟨k - 1, r ++ [(⟨.slice xa xn xc, xr⟩ : L1)], l6, b6, o4, M, _, rfl, rfl, hq6, fun e => ?_, fun e => ?_⟩
        · obtain ⟨a1, a2⟩ := hn1.out e
          have a3 := hg1.out e
          have a4 : b4 = false ∧ Tx.pre [44] (Tx.bare l4) = true := more_and (HMM.out.symm.trans e)
          have a5 := Wt.aft_len a4.2
          have a6 := Tx.bare_le l4
          have a7 := HP.out.2 a4.1
          rw [← a2] at a3 a5
          refine ⟨a1, by omega, ?_⟩
          rw [show k - 1 + 1 = k by omega, List.map_append]
          exact a3
        · obtain ⟨a1, a2⟩ := hn2.out e
          have a3 := hg2.out e
          rw [← a1] at a3
          rw [a3, List.map_append]
          cases b6
          · first
            | (rw [a2 rfl]; done)
            | (rw [a2 rfl]; rfl)
          · rfl
      case measure => simp [lenS]; omega
end Go.Proofs.YtoanonklmmbhgaaGreatDoor

/- THE PROGRAM's JSON, READ: polygons. -/
namespace Go.Proofs.YtoanonklmmbhgaaGreatDoor
set_option linter.all false
open Go.RowKit Go.Deep

def jPlsPost (l : List UInt8) (bad0 off0 : Bool) (rb : Nat) (w : World) (e : Ending) (w' : World) : Prop :=
  ∃ (x : L3) (l' : List UInt8) (bad off : Bool), e = .returned x.v ∧ x.ok w' ∧ RT w' rb l' bad off ∧ Fr (· = rb) w w' ∧ (if bad0 = true then none else Js.polys l off0) = (if bad = true then none else some (x.m, l', off)) ∧ l'.length ≤ 6000

set_option maxRecDepth 100000 in
set_option maxHeartbeats 4000000 in
theorem jPls_any (l : List UInt8) (bad0 off0 : Bool) (rb : Nat) (w : World) (hr : RT w rb l bad0 off0) (hl : l.length ≤ 6000) :
    Calls Tryz.prog 130 #[.pointer (some ⟨rb, 0, none⟩)] w (jPlsPost l bad0 off0 rb w) := by
  have HR := hide hr
  clear hr
  go_enter Tryz.func130, Tryz.ntmps130
  go_wp2_with fail
  refine (begin_any 91 93 l bad0 off0 rb _ HR.out hl).mono ?_
  rintro e w1 ⟨l1, b1, more1, rfl, h1, u1, hl1, hm1, hm2⟩
  have HT1 := hide (fun h => And.intro (hm1 h).1 (And.intro (hm1 h).2.1 ((hm1 h).2.2.1 _ Js.poly off0)))
  have HT2 := hide (fun h => (hm2 h).1 _ Js.poly off0)
  have HQ := hide (P3.start h1 (Nat.le_trans hl1 hl))
  have HF1 := hide u1
  clear h1 u1 hm1 hm2
  go_wp2_with fail
  go_loopw [3, 4] (fun v mv wr => ∃ (k : Nat) (r : List L2) (l' : List UInt8) (bad off more : Bool) (u : Value), u = v ∧ mv = .bool more ∧ Hid (P3 w1 wr rb u r l' bad off) ∧ Hid (more = true → bad = false ∧ l'.length ≤ k ∧ (if bad0 = true then none else Js.polys l off0) = Bn.pre (r.map L2.pts) (Js.items 93 Js.poly (k + 1) l' off)) ∧ Hid (more = false → (if bad0 = true then none else Js.polys l off0) = if bad = true then none else some ((r.map L2.pts), l', off))) (fun v _ _ => 7000 - lenS v)
  case atStart => exact ⟨(Tx.bare l).length, [], l1, b1, off0, more1, _, rfl, rfl, HQ, HT1.out, HT2.out⟩
  case round =>
    obtain ⟨wo, hw⟩ : ∃ x, x = wr := ⟨_, rfl⟩
    subst hw
    obtain ⟨k, r, l2, bad, off, more, v, rfl, rfl, HI, H1, H2⟩ := hrel
    have hl2 := HI.out.rest
    obtain ⟨va, vn, vc, rfl⟩ : ∃ a n c, v = .slice a n c := own_shape HI.out.own
    obtain rfl : vn = r.length := by obtain ⟨a, c, e⟩ := own_len HI.out.own; cases e; rfl
    cases more
    · have HE := hide (H2.out rfl)
      clear H1 H2
      go_wp2
      go_ret
      exact ⟨⟨_, _⟩, l2, bad, off, rfl, ⟨own_base HI.out.own (Nat.zero_le _), HI.out.sub⟩, HI.out.sd, HF1.out.trans HI.out.fr, HE.out, hl2⟩
    · obtain ⟨hbf, hk, HT2⟩ := H1.out rfl
      subst hbf
      have hs6 := HI.out.sum rfl
      replace HT2 := hide HT2
      clear H1 H2
      go_wp2_with fail
      refine (jPl_any l2 false off rb _ HI.out.sd hl2).mono ?_
      rintro e w4 ⟨⟨xv, xr⟩, l4, b4, o4, rfl, hx, h4, u4, p4, hl4⟩
      obtain ⟨xa, xn, xc, rfl⟩ : ∃ a n c, xv = .slice a n c := own_shape hx.row
      have HP : Hid ((if false = true then none else Js.poly l2 off) = (if b4 = true then none else some (L2.pts ⟨.slice xa xn xc, xr⟩, l4, o4)) ∧ (b4 = false → l4.length + 1 ≤ l2.length)) := by
        refine ⟨p4, fun e => ?_⟩
        rw [e] at p4
        exact (Js.poly_lt p4).1
      have HF : Hid (Fr (· = rb) wo w4) := u4
      have HO : Hid (w4.ownsRow w1.heap.size 79 1 (.slice va r.length vc) r.length (r.map L2.v)) := own_fr HI.out.own HF.out fun g hg e => own_row_ne HI.out.own HI.out.sd (by decide) (e ▸ hg)
      have HOA := hide (HO.out.alloc (.cells #[.slice xa xn xc] 79))
      have HX := hide hx
      replace h4 := hide h4
      clear u4 p4 hx
      have hrb : Hid (r.length ≤ 1073741824) := by show _ ≤ _; omega
      have hsz := hide (HI.out.fr.trans HF.out).size
      have HLT : Hid (b4 = false → r.length + 1 + l4.length ≤ 6000) := fun e => by
        have h7 := HP.out.2 e
        omega
      go_wp2_with (first | (at_builtin; refine wpList_app el_polys rfl (.tmp 13) (.tmp 15) rfl w1.heap.size _ _ _ (by rfl) HOA.out _ [.slice xa xn xc] (by rfl) rfl (heap_alloc_new _ _) (by intro u hu; simp at hu; subst hu; rfl) hrb.out (by have := hsz.out; simp at this ⊢; omega) ?_; intro g cap w5 hown5 hg5 hat5 hlt5; have hq5 := hide (HI.out.step' (by omega) h4.out HF.out HX.out HLT.out hl4 hown5 hg5); clear hat5 hlt5 hown5 hg5) | (go_at_call 126; fail))
      have HG := Js.go_on (e := 93) (bad := false) HT2.out HP.out.1
      obtain ⟨hg1, hg2⟩ := HG
      replace hg1 := hide hg1
      replace hg2 := hide hg2
      refine (nextE_any 93 l4 b4 o4 rb _ hq5.out.sd hl4).mono ?_
      rintro e w6 ⟨l6, b6, rfl, h6, u6, hl6, hn1, hn2⟩
      obtain ⟨M, hM⟩ : ∃ M, M = (!b4 && Tx.pre [44] (Tx.bare l4)) := ⟨_, rfl⟩
      rw [← hM] at hn1 hn2 hg1 hg2 ⊢
      have hq6 := hide (hq5.out.sd' h6 u6 hl6 (more_bad hM (fun h => (hn2 h).1) ))
      replace hn1 := hide hn1
      replace hn2 := hide hn2
      have HMM := hide hM
      clear h6 u6 hM
      go_wp2
      go_roundw
      case rel =>
        refine ⟨k - 1, r ++ [(⟨.slice xa xn xc, xr⟩ : L2)], l6, b6, o4, M, _, rfl, rfl, hq6, fun e => ?_, fun e => ?_⟩
        · obtain ⟨a1, a2⟩ := hn1.out e
          have a3 := hg1.out e
          have a4 : b4 = false ∧ Tx.pre [44] (Tx.bare l4) = true := more_and (HMM.out.symm.trans e)
          have a5 := Wt.aft_len a4.2
          have a6 := Tx.bare_le l4
          have a7 := HP.out.2 a4.1
          rw [← a2] at a3 a5
          refine ⟨a1, by omega, ?_⟩
          rw [show k - 1 + 1 = k by omega, List.map_append]
          exact a3
        · obtain ⟨a1, a2⟩ := hn2.out e
          have a3 := hg2.out e
          rw [← a1] at a3
          rw [a3, List.map_append]
          cases b6
          · first
            | (rw [a2 rfl]; done)
            | (rw [a2 rfl]; rfl)
          · rfl
      case measure => simp [lenS]; omega
end Go.Proofs.YtoanonklmmbhgaaGreatDoor

/- THE PROGRAM's TEXTS, READ: polygon. -/
namespace Go.Proofs.YtoanonklmmbhgaaGreatDoor
set_option linter.all false
open Go.RowKit Go.Deep

def pPlPost (l : List UInt8) (bad0 off0 : Bool) (rb : Nat) (w : World) (e : Ending) (w' : World) : Prop :=
  ∃ (x : L2) (l' : List UInt8) (bad off : Bool), e = .returned x.v ∧ x.ok w' ∧ RT w' rb l' bad off ∧ Fr (· = rb) w w' ∧ (if bad0 = true then none else Wt.poly l off0) = (if bad = true then none else some (x.pts, l', off)) ∧ l'.length ≤ 6000

set_option maxRecDepth 100000 in
set_option maxHeartbeats 4000000 in
theorem pPl_any (l : List UInt8) (bad0 off0 : Bool) (rb : Nat) (w : World) (hr : RT w rb l bad0 off0) (hl : l.length ≤ 6000) :
    Calls Tryz.prog 169 #[.pointer (some ⟨rb, 0, none⟩)] w (pPlPost l bad0 off0 rb w) := by
  have HR := hide hr
  clear hr
  go_enter Tryz.func169, Tryz.ntmps169
  go_wp2_with fail
  refine (need_any [40] l bad0 off0 rb _ HR.out hl (by simp)).mono ?_
  rintro e w1 ⟨rfl, h1, u1⟩
  have HT := hide (Wt.begin_ Wt.ring l off0 bad0)
  have hl1 : (Tx.aft [40] (Tx.bare l)).length ≤ l.length := Nat.le_trans (Tx.aft_le _ _) (Tx.bare_le l)
  obtain ⟨l1, hl1e⟩ : ∃ l1, l1 = Tx.aft [40] (Tx.bare l) := ⟨_, rfl⟩
  obtain ⟨b1, hb1e⟩ : ∃ b1, b1 = (bad0 || !Tx.pre [40] (Tx.bare l)) := ⟨_, rfl⟩
  rw [← hl1e, ← hb1e] at h1 HT
  have hl1b : (Tx.aft [40] (Tx.bare l)).length ≤ (Tx.bare l).length := Tx.aft_le _ _
  rw [← hl1e] at hl1 hl1b
  rw [← hb1e]
  have HQ := hide (P2.start h1 (Nat.le_trans hl1 hl))
  have HF1 := hide u1
  clear h1 u1 hl1e hb1e
  go_wp2_with fail
  go_loopw [3, 4] (fun v mv wr => ∃ (k : Nat) (r : List L1) (l' : List UInt8) (bad off more : Bool) (u : Value), u = v ∧ mv = .bool more ∧ Hid (P2 w1 wr rb u r l' bad off) ∧ Hid (more = true → bad = false ∧ l'.length ≤ k ∧ (if bad0 = true then none else Wt.poly l off0) = Bn.pre (r.map L1.r) (Wt.items Wt.ring (k + 1) l' off)) ∧ Hid (more = false → (if bad0 = true then none else Wt.poly l off0) = if bad = true then none else some ((r.map L1.r), l', off))) (fun v _ _ => 7000 - lenS v)
  case atStart =>
    refine ⟨(Tx.bare l).length, [], l1, b1, off0, !b1, _, rfl, rfl, HQ, fun e => ?_, fun e => ?_⟩
    · have e1 : b1 = false := by simpa using e
      refine ⟨e1, hl1b, ?_⟩
      exact HT.out.trans (by rw [e1]; rfl)
    · have e1 : b1 = true := by simpa using e
      exact HT.out.trans (by rw [e1]; rfl)
  case round =>
    obtain ⟨wo, hw⟩ : ∃ x, x = wr := ⟨_, rfl⟩
    subst hw
    obtain ⟨k, r, l2, bad, off, more, v, rfl, rfl, HI, H1, H2⟩ := hrel
    have hl2 := HI.out.rest
    obtain ⟨va, vn, vc, rfl⟩ : ∃ a n c, v = .slice a n c := own_shape HI.out.own
    obtain rfl : vn = r.length := by obtain ⟨a, c, e⟩ := own_len HI.out.own; cases e; rfl
    cases more
    · have HE := hide (H2.out rfl)
      clear H1 H2
      go_wp2
      go_ret
      exact ⟨⟨_, _⟩, l2, bad, off, rfl, ⟨own_base HI.out.own (Nat.zero_le _), HI.out.sub⟩, HI.out.sd, HF1.out.trans HI.out.fr, HE.out, hl2⟩
    · obtain ⟨hbf, hk, HT2⟩ := H1.out rfl
      subst hbf
      have hs6 := HI.out.sum rfl
      replace HT2 := hide HT2
      clear H1 H2
      go_wp2_with fail
      refine (pRg_any l2 false off rb _ HI.out.sd hl2).mono ?_
      rintro e w4 ⟨⟨xv, xr⟩, l4, b4, o4, rfl, hx, h4, u4, p4, hl4⟩
      obtain ⟨xa, xn, xc, rfl⟩ : ∃ a n c, xv = .slice a n c := own_shape hx
      have HP : Hid ((if false = true then none else Wt.ring l2 off) = (if b4 = true then none else some (xr, l4, o4)) ∧ (b4 = false → l4.length + 1 ≤ l2.length)) := by
        refine ⟨p4, fun e => ?_⟩
        rw [e] at p4
        exact (Wt.ring_lt p4).1
      have HF : Hid (Fr (· = rb) wo w4) := u4
      have HO : Hid (w4.ownsRow w1.heap.size 88 1 (.slice va r.length vc) r.length (r.map L1.v)) := own_fr HI.out.own HF.out fun g hg e => own_row_ne HI.out.own HI.out.sd (by decide) (e ▸ hg)
      have HOA := hide (HO.out.alloc (.cells #[.slice xa xn xc] 88))
      have HX := hide hx
      replace h4 := hide h4
      clear u4 p4 hx
      have hrb : Hid (r.length ≤ 1073741824) := by show _ ≤ _; omega
      have hsz := hide (HI.out.fr.trans HF.out).size
      have HLT : Hid (b4 = false → r.length + 1 + l4.length ≤ 6000) := fun e => by
        have h7 := HP.out.2 e
        omega
      go_wp2_with (first | (at_builtin; refine wpList_app el_rings rfl (.tmp 13) (.tmp 15) rfl w1.heap.size _ _ _ (by rfl) HOA.out _ [.slice xa xn xc] (by rfl) rfl (heap_alloc_new _ _) (by intro u hu; simp at hu; subst hu; rfl) hrb.out (by have := hsz.out; simp at this ⊢; omega) ?_; intro g cap w5 hown5 hg5 hat5 hlt5; have hq5 := hide (HI.out.step' (by omega) h4.out HF.out HX.out HLT.out hl4 hown5 hg5); clear hat5 hlt5 hown5 hg5) | (go_at_call 126; fail))
      have HG := Wt.go_on (bad := false) HT2.out HP.out.1
      obtain ⟨hg1, hg2⟩ := HG
      replace hg1 := hide hg1
      replace hg2 := hide hg2
      refine (next_any l4 b4 o4 rb _ hq5.out.sd hl4).mono ?_
      rintro e w6 ⟨l6, b6, rfl, h6, u6, hl6, hn1, hn2⟩
      obtain ⟨M, hM⟩ : ∃ M, M = (!b4 && Tx.pre [44] (Tx.bare l4)) := ⟨_, rfl⟩
      rw [← hM] at hn1 hn2 hg1 hg2 ⊢
      have hq6 := hide (hq5.out.sd' h6 u6 hl6 (more_bad hM (fun h => (hn2 h).1) ))
      replace hn1 := hide hn1
      replace hn2 := hide hn2
      have HMM := hide hM
      clear h6 u6 hM
      go_wp2
      go_roundw
      case rel =>
        refine ⟨k - 1, r ++ [(⟨.slice xa xn xc, xr⟩ : L1)], l6, b6, o4, M, _, rfl, rfl, hq6, fun e => ?_, fun e => ?_⟩
        · obtain ⟨a1, a2⟩ := hn1.out e
          have a3 := hg1.out e
          have a4 : b4 = false ∧ Tx.pre [44] (Tx.bare l4) = true := more_and (HMM.out.symm.trans e)
          have a5 := Wt.aft_len a4.2
          have a6 := Tx.bare_le l4
          have a7 := HP.out.2 a4.1
          rw [← a2] at a3 a5
          refine ⟨a1, by omega, ?_⟩
          rw [show k - 1 + 1 = k by omega, List.map_append]
          exact a3
        · obtain ⟨a1, a2⟩ := hn2.out e
          have a3 := hg2.out e
          rw [← a1] at a3
          rw [a3, List.map_append]
          cases b6
          · first
            | (rw [a2 rfl]; done)
            | (rw [a2 rfl]; rfl)
          · rfl
      case measure => simp [lenS]; omega
end Go.Proofs.YtoanonklmmbhgaaGreatDoor

/- THE PROGRAM's TEXTS, READ: polygons. -/
namespace Go.Proofs.YtoanonklmmbhgaaGreatDoor
set_option linter.all false
open Go.RowKit Go.Deep

def pPlsPost (l : List UInt8) (bad0 off0 : Bool) (rb : Nat) (w : World) (e : Ending) (w' : World) : Prop :=
  ∃ (x : L3) (l' : List UInt8) (bad off : Bool), e = .returned x.v ∧ x.ok w' ∧ RT w' rb l' bad off ∧ Fr (· = rb) w w' ∧ (if bad0 = true then none else Wt.polys l off0) = (if bad = true then none else some (x.m, l', off)) ∧ l'.length ≤ 6000

set_option maxRecDepth 100000 in
set_option maxHeartbeats 4000000 in
theorem pPls_any (l : List UInt8) (bad0 off0 : Bool) (rb : Nat) (w : World) (hr : RT w rb l bad0 off0) (hl : l.length ≤ 6000) :
    Calls Tryz.prog 135 #[.pointer (some ⟨rb, 0, none⟩)] w (pPlsPost l bad0 off0 rb w) := by
  have HR := hide hr
  clear hr
  go_enter Tryz.func135, Tryz.ntmps135
  go_wp2_with fail
  refine (need_any [40] l bad0 off0 rb _ HR.out hl (by simp)).mono ?_
  rintro e w1 ⟨rfl, h1, u1⟩
  have HT := hide (Wt.begin_ Wt.poly l off0 bad0)
  have hl1 : (Tx.aft [40] (Tx.bare l)).length ≤ l.length := Nat.le_trans (Tx.aft_le _ _) (Tx.bare_le l)
  obtain ⟨l1, hl1e⟩ : ∃ l1, l1 = Tx.aft [40] (Tx.bare l) := ⟨_, rfl⟩
  obtain ⟨b1, hb1e⟩ : ∃ b1, b1 = (bad0 || !Tx.pre [40] (Tx.bare l)) := ⟨_, rfl⟩
  rw [← hl1e, ← hb1e] at h1 HT
  have hl1b : (Tx.aft [40] (Tx.bare l)).length ≤ (Tx.bare l).length := Tx.aft_le _ _
  rw [← hl1e] at hl1 hl1b
  rw [← hb1e]
  have HQ := hide (P3.start h1 (Nat.le_trans hl1 hl))
  have HF1 := hide u1
  clear h1 u1 hl1e hb1e
  go_wp2_with fail
  go_loopw [3, 4] (fun v mv wr => ∃ (k : Nat) (r : List L2) (l' : List UInt8) (bad off more : Bool) (u : Value), u = v ∧ mv = .bool more ∧ Hid (P3 w1 wr rb u r l' bad off) ∧ Hid (more = true → bad = false ∧ l'.length ≤ k ∧ (if bad0 = true then none else Wt.polys l off0) = Bn.pre (r.map L2.pts) (Wt.items Wt.poly (k + 1) l' off)) ∧ Hid (more = false → (if bad0 = true then none else Wt.polys l off0) = if bad = true then none else some ((r.map L2.pts), l', off))) (fun v _ _ => 7000 - lenS v)
  case atStart =>
    refine ⟨(Tx.bare l).length, [], l1, b1, off0, !b1, _, rfl, rfl, HQ, fun e => ?_, fun e => ?_⟩
    · have e1 : b1 = false := by simpa using e
      refine ⟨e1, hl1b, ?_⟩
      exact HT.out.trans (by rw [e1]; rfl)
    · have e1 : b1 = true := by simpa using e
      exact HT.out.trans (by rw [e1]; rfl)
  case round =>
    obtain ⟨wo, hw⟩ : ∃ x, x = wr := ⟨_, rfl⟩
    subst hw
    obtain ⟨k, r, l2, bad, off, more, v, rfl, rfl, HI, H1, H2⟩ := hrel
    have hl2 := HI.out.rest
    obtain ⟨va, vn, vc, rfl⟩ : ∃ a n c, v = .slice a n c := own_shape HI.out.own
    obtain rfl : vn = r.length := by obtain ⟨a, c, e⟩ := own_len HI.out.own; cases e; rfl
    cases more
    · have HE := hide (H2.out rfl)
      clear H1 H2
      go_wp2
      go_ret
      exact ⟨⟨_, _⟩, l2, bad, off, rfl, ⟨own_base HI.out.own (Nat.zero_le _), HI.out.sub⟩, HI.out.sd, HF1.out.trans HI.out.fr, HE.out, hl2⟩
    · obtain ⟨hbf, hk, HT2⟩ := H1.out rfl
      subst hbf
      have hs6 := HI.out.sum rfl
      replace HT2 := hide HT2
      clear H1 H2
      go_wp2_with fail
      refine (pPl_any l2 false off rb _ HI.out.sd hl2).mono ?_
      rintro e w4 ⟨⟨xv, xr⟩, l4, b4, o4, rfl, hx, h4, u4, p4, hl4⟩
      obtain ⟨xa, xn, xc, rfl⟩ : ∃ a n c, xv = .slice a n c := own_shape hx.row
      have HP : Hid ((if false = true then none else Wt.poly l2 off) = (if b4 = true then none else some (L2.pts ⟨.slice xa xn xc, xr⟩, l4, o4)) ∧ (b4 = false → l4.length + 1 ≤ l2.length)) := by
        refine ⟨p4, fun e => ?_⟩
        rw [e] at p4
        exact (Wt.poly_lt p4).1
      have HF : Hid (Fr (· = rb) wo w4) := u4
      have HO : Hid (w4.ownsRow w1.heap.size 79 1 (.slice va r.length vc) r.length (r.map L2.v)) := own_fr HI.out.own HF.out fun g hg e => own_row_ne HI.out.own HI.out.sd (by decide) (e ▸ hg)
      have HOA := hide (HO.out.alloc (.cells #[.slice xa xn xc] 79))
      have HX := hide hx
      replace h4 := hide h4
      clear u4 p4 hx
      have hrb : Hid (r.length ≤ 1073741824) := by show _ ≤ _; omega
      have hsz := hide (HI.out.fr.trans HF.out).size
      have HLT : Hid (b4 = false → r.length + 1 + l4.length ≤ 6000) := fun e => by
        have h7 := HP.out.2 e
        omega
      go_wp2_with (first | (at_builtin; refine wpList_app el_polys rfl (.tmp 13) (.tmp 15) rfl w1.heap.size _ _ _ (by rfl) HOA.out _ [.slice xa xn xc] (by rfl) rfl (heap_alloc_new _ _) (by intro u hu; simp at hu; subst hu; rfl) hrb.out (by have := hsz.out; simp at this ⊢; omega) ?_; intro g cap w5 hown5 hg5 hat5 hlt5; have hq5 := hide (HI.out.step' (by omega) h4.out HF.out HX.out HLT.out hl4 hown5 hg5); clear hat5 hlt5 hown5 hg5) | (go_at_call 126; fail))
      have HG := Wt.go_on (bad := false) HT2.out HP.out.1
      obtain ⟨hg1, hg2⟩ := HG
      replace hg1 := hide hg1
      replace hg2 := hide hg2
      refine (next_any l4 b4 o4 rb _ hq5.out.sd hl4).mono ?_
      rintro e w6 ⟨l6, b6, rfl, h6, u6, hl6, hn1, hn2⟩
      obtain ⟨M, hM⟩ : ∃ M, M = (!b4 && Tx.pre [44] (Tx.bare l4)) := ⟨_, rfl⟩
      rw [← hM] at hn1 hn2 hg1 hg2 ⊢
      have hq6 := hide (hq5.out.sd' h6 u6 hl6 (more_bad hM (fun h => (hn2 h).1) ))
      replace hn1 := hide hn1
      replace hn2 := hide hn2
      have HMM := hide hM
      clear h6 u6 hM
      go_wp2
      go_roundw
      case rel =>
        refine ⟨k - 1, r ++ [(⟨.slice xa xn xc, xr⟩ : L2)], l6, b6, o4, M, _, rfl, rfl, hq6, fun e => ?_, fun e => ?_⟩
        · obtain ⟨a1, a2⟩ := hn1.out e
          have a3 := hg1.out e
          have a4 : b4 = false ∧ Tx.pre [44] (Tx.bare l4) = true := more_and (HMM.out.symm.trans e)
          have a5 := Wt.aft_len a4.2
          have a6 := Tx.bare_le l4
          have a7 := HP.out.2 a4.1
          rw [← a2] at a3 a5
          refine ⟨a1, by omega, ?_⟩
          rw [show k - 1 + 1 = k by omega, List.map_append]
          exact a3
        · obtain ⟨a1, a2⟩ := hn2.out e
          have a3 := hg2.out e
          rw [← a1] at a3
          rw [a3, List.map_append]
          cases b6
          · first
            | (rw [a2 rfl]; done)
            | (rw [a2 rfl]; rfl)
          · rfl
      case measure => simp [lenS]; omega
end Go.Proofs.YtoanonklmmbhgaaGreatDoor

/- THE PROGRAM's TEXTS, READ: sets, Read. -/
namespace Go.Proofs.YtoanonklmmbhgaaGreatDoor
set_option linter.all false
open Go.RowKit Go.Deep

set_option maxHeartbeats 1000000 in
theorem answer_any (l : List UInt8) (bad off : Bool) (rb : Nat) (xa : Option Addr) (xn xc : Nat) (w : World) (hr : RT w rb l bad off) (hl : l.length ≤ 6000) :
    Calls Tryz.prog 103 #[.pointer (some ⟨rb, 0, none⟩), .slice xa xn xc] w fun e w' => e = .returned (.tuple #[if Tx.fin (Tx.bare l) bad off = 0 then .slice xa xn xc else .slice none 0 0, .int .i64 (Tx.fin (Tx.bare l) bad off)]) ∧ Fr (· = rb) w w' := by
  have HR := hide hr
  clear hr
  have HB := hide (blanks_any l bad off rb w HR.out hl)
  have hbl := Tx.bare_le l
  obtain ⟨t, ht⟩ : ∃ t, t = Tx.bare l := ⟨_, rfl⟩
  rw [← ht] at HB hbl ⊢
  clear ht
  have e0 := bs_size t
  obtain ⟨F, hF⟩ : ∃ F, F = Tx.fin t bad off := ⟨_, rfl⟩
  rw [← hF]
  have HF := hide hF
  clear hF
  cases t with
  | nil =>
    cases bad <;> cases off
    all_goals
      have hv := HF.out
      simp [Tx.fin] at hv
      subst hv
      go_enter Tryz.func103, Tryz.ntmps103
      go_wp2_with fail
      refine HB.out.mono ?_
      rintro e w1 ⟨n, rfl, -, h1, u1⟩
      obtain ⟨c0, c1, c2, -, -, -⟩ := h1.facts
      replace u1 := hide u1
      clear h1
      go_wp2
      go_ret2
      exact ⟨rfl, u1.out⟩
  | cons a s =>
    have e1 : (0 : Int) < ((a :: s).length : Int) := by simp only [List.length_cons]; omega
    have hv := HF.out
    simp [Tx.fin] at hv
    subst hv
    cases bad
    all_goals
      go_enter Tryz.func103, Tryz.ntmps103
      go_wp2_with fail
      refine HB.out.mono ?_
      rintro e w1 ⟨n, rfl, -, h1, u1⟩
      obtain ⟨c0, c1, c2, -, -, -⟩ := h1.facts
      replace u1 := hide u1
      clear h1
      go_wp2
      go_ret2
      exact ⟨rfl, u1.out⟩

def pSetPost (l : List UInt8) (rb : Nat) (w : World) (e : Ending) (w' : World) : Prop :=
  ∃ (x : L3) (l' : List UInt8) (bad off : Bool), e = .returned x.v ∧ x.ok w' ∧ RT w' rb l' bad off ∧ Fr (· = rb) w w' ∧ Wt.set l = (if bad = true then none else some (x.m, l', off)) ∧ l'.length ≤ 6000

set_option maxRecDepth 100000 in
set_option maxHeartbeats 2000000 in
theorem pSet_any (l : List UInt8) (rb : Nat) (w : World) (hr : RT w rb l false false) (hl : l.length ≤ 6000) :
    Calls Tryz.prog 104 #[.pointer (some ⟨rb, 0, none⟩)] w (pSetPost l rb w) := by
  have HR := hide hr
  clear hr
  have HS : Hid (Wt.set l = if (false || !Tx.pre Wt.name (Tx.bare l)) = true then none else Wt.rest (Tx.aft Wt.name (Tx.bare l))) := by
    show _ = _
    unfold Wt.set
    cases Tx.pre Wt.name (Tx.bare l) <;> simp
  have hle : (Tx.aft Wt.name (Tx.bare l)).length ≤ 6000 := Nat.le_trans (Nat.le_trans (Tx.aft_le _ _) (Tx.bare_le l)) hl
  have HN := hide (need_any Wt.name l false false rb w HR.out hl (by decide))
  unfold NeedPost at HN
  obtain ⟨r, hr⟩ : ∃ r, r = Tx.aft Wt.name (Tx.bare l) := ⟨_, rfl⟩
  obtain ⟨b1, hb1⟩ : ∃ b1, b1 = (false || !Tx.pre Wt.name (Tx.bare l)) := ⟨_, rfl⟩
  rw [← hr, ← hb1] at HN HS
  rw [← hr] at hle
  clear hr hb1
  have hbl := Tx.bare_le r
  have hgap := Tx.bare_gap r
  go_enter Tryz.func104, Tryz.ntmps104
  go_wp2_with fail
  refine HN.out.mono ?_
  rintro e w1 ⟨rfl, h1, u1⟩
  replace h1 := hide h1
  replace u1 := hide u1
  go_wp2_with fail
  refine (blanks_any r b1 false rb _ h1.out hle).mono ?_
  rintro e w2 ⟨n, rfl, hn, h2, u2⟩
  rw [← hn] at hgap
  replace h2 := hide h2
  replace u2 := hide u2
  obtain ⟨gp, hgp⟩ : ∃ gp, gp = Wt.gap r := ⟨_, rfl⟩
  rw [← hgp] at hgap
  have HGP := hide hgp
  clear hn hgp
  cases gp
  · have hn0 : ¬ (0 : Int) < (n : Int) := by have := hgap.2 rfl; omega
    have HRS : Hid (Wt.rest r = Wt.polys (Tx.bare r) false) := by
      show _ = _
      unfold Wt.rest
      rw [← HGP.out, Bool.and_false, if_neg (by decide), Wt.polys_bare]
    rw [HRS.out] at HS
    clear hgap
    go_wp2_with fail
    refine (pPls_any (Tx.bare r) b1 false rb _ h2.out (by omega)).mono ?_
    rintro e w3 ⟨x, l3, b3, o3, rfl, hx, h3, u3, p3, hl3⟩
    have HU := hide ((u1.out.trans u2.out).trans u3)
    replace hx := hide hx
    replace h3 := hide h3
    replace p3 := hide p3
    clear u3
    go_wp2
    go_ret
    exact ⟨x, l3, b3, o3, rfl, hx.out, h3.out, HU.out, HS.out.trans p3.out, hl3⟩
  · have hn0 : (0 : Int) < (n : Int) := by
      rcases Nat.eq_zero_or_pos n with h | h
      · have := hgap.1 h; cases this
      · omega
    clear hgap
    have HW := hide (word_any Wt.empty (Tx.bare r) b1 false rb w2 h2.out (by omega) (by decide))
    obtain ⟨P, hP⟩ : ∃ P, P = Tx.pre Wt.empty (Tx.bare r) := ⟨_, rfl⟩
    rw [← hP] at HW
    have HPP := hide hP
    clear hP
    cases P
    · have HA : Hid (Tx.aft Wt.empty (Tx.bare r) = Tx.bare r) := Tx.aft_f HPP.out.symm
      have HRS : Hid (Wt.rest r = Wt.polys (Tx.bare r) false) := by
        show _ = _
        unfold Wt.rest
        rw [← HPP.out, Bool.false_and, if_neg (by decide), Wt.polys_bare]
      rw [HRS.out] at HS
      rw [HA.out] at HW
      go_wp2_with fail
      refine HW.out.mono ?_
      rintro e w4 ⟨rfl, h4, u4⟩
      replace h4 := hide h4
      replace u4 := hide u4
      go_wp2_with fail
      refine (pPls_any (Tx.bare r) b1 false rb _ h4.out (by omega)).mono ?_
      rintro e w3 ⟨x, l3, b3, o3, rfl, hx, h3, u3, p3, hl3⟩
      have HU := hide (((u1.out.trans u2.out).trans u4.out).trans u3)
      replace hx := hide hx
      replace h3 := hide h3
      replace p3 := hide p3
      clear u3
      go_wp2
      go_ret
      exact ⟨x, l3, b3, o3, rfl, hx.out, h3.out, HU.out, HS.out.trans p3.out, hl3⟩
    · have HRS : Hid (Wt.rest r = some ([], Tx.aft Wt.empty (Tx.bare r), false)) := by
        show _ = _
        unfold Wt.rest
        rw [← HPP.out, ← HGP.out]; rfl
      rw [HRS.out] at HS
      go_wp2_with fail
      refine HW.out.mono ?_
      rintro e w4 ⟨rfl, h4, u4⟩
      replace h4 := hide h4
      replace u4 := hide u4
      go_wp2
      go_ret
      exact ⟨nil3, _, b1, false, rfl, nil3_ok _, h4.out, (u1.out.trans u2.out).trans u4.out, HS.out, Nat.le_trans (Tx.aft_le _ _) (by omega)⟩

set_option maxHeartbeats 1000000 in
theorem tRead_any (l : List UInt8) (w : World) (hl : l.length ≤ 6000) :
    Calls Tryz.prog 70 #[.string (bs l)] w (ReadPost (Wt.err l) (Wt.got l) w) := by
  have hnew := VRow.new w [.string (bs l), .bool false, .bool false] 146
  have HS := hide (pSet_any l w.heap.size _ hnew hl)
  clear hnew
  unfold ReadPost
  go_enter Tryz.func70, Tryz.ntmps70
  go_wp2_with fail
  refine HS.out.mono ?_
  rintro e w1 ⟨⟨xv, ps⟩, t, bad, off, rfl, hx, h1, u1, hp, ht⟩
  obtain ⟨xa, xn, xc, rfl⟩ : ∃ a n c, xv = .slice a n c := own_shape hx.row
  have HU : Hid (Up w w1) := ((Fr.of_up ((Up.refl w).alloc _)).then u1 (T := (· = w.heap.size)) (S := fun x => w.heap.size ≤ x) (fun x _ e => by omega)).up (fun x hx => by omega)
  have HE := hide (Wt.err_of hp)
  have HG := hide (fun h => Wt.got_of hp h)
  have HX := hide hx
  have HRT := hide h1
  clear hx h1 u1 hp
  obtain ⟨F, hF⟩ : ∃ F, F = Tx.fin (Tx.bare t) bad off := ⟨_, rfl⟩
  have HA := hide (answer_any t bad off w.heap.size xa xn xc w1 HRT.out ht)
  rw [← hF] at HE HA
  have HFF := hide hF
  clear hF
  go_wp2_with fail
  refine HA.out.mono ?_
  rintro e w2 ⟨rfl, u2⟩
  have HU2 : Hid (Up w w2) := ((Fr.of_up HU.out).then u2 (T := (· = w.heap.size)) (S := fun x => w.heap.size ≤ x) (fun x _ e => by omega)).up (fun x hx => by omega)
  have HX2 : Hid (L3.ok w2 ⟨.slice xa xn xc, ps⟩) := HX.out.fr u2 (fun b hb e => HX.out.row_ne HRT.out (by decide) (by decide) (by decide) (e ▸ hb))
  clear u2
  by_cases h0 : F = 0
  · rw [if_pos h0]
    have HH0 := hide h0
    clear h0
    go_wp2
    go_ret2
    exact ⟨⟨.slice xa xn xc, ps⟩, by rw [HE.out]; rfl, HX2.out, fun _ => (HG.out (Wt.fin_bad (HFF.out.symm.trans HH0.out))).symm, HU2.out⟩
  · rw [if_neg h0]
    have HH0 := hide h0
    clear h0
    go_wp2
    go_ret2
    exact ⟨nil3, by rw [HE.out]; rfl, nil3_ok _, (fun e => absurd (HE.out.symm.trans e) HH0.out), HU2.out⟩

set_option maxHeartbeats 1000000 in
theorem read0_any (l : List UInt8) (w : World) (hl : l.length ≤ 6000) :
    Calls Tryz.prog 36 #[.int .i64 0, .string (bs l)] w (ReadPost (Wt.err l) (Wt.got l) w) := by
  unfold ReadPost
  go_enter Tryz.func36, Tryz.ntmps36
  go_wp2_with (go_at_call 70; refine (tRead_any l _ hl).mono ?_; rintro e w1 ⟨X, rfl, h⟩; replace h := hide h)
  go_ret2
  exact ⟨X, rfl, h.out⟩
end Go.Proofs.YtoanonklmmbhgaaGreatDoor

/- THE PROGRAM's JSON: the object, Read. -/
namespace Go.Proofs.YtoanonklmmbhgaaGreatDoor
set_option linter.all false
open Go.RowKit Go.Deep

theorem L3.ok.rt {w w' : World} {x : L3} (h : x.ok w) {rb : Nat} {l : List UInt8} {bad off : Bool} (hr : RT w rb l bad off) (u : Fr (· = rb) w w') : x.ok w' := h.fr u fun b hb e => h.row_ne hr (by decide) (by decide) (by decide) (e ▸ hb)

namespace Js
open Bn (Res)
def typ (l : List UInt8) : Option (List UInt8) := (str (Tx.bare l)).bind fun y => if y.1 = typeT then some y.2 else none
theorem memV_type (l : List UInt8) (o : Bool) : memV typeN l o = (typ l).map fun t => (.type, t, o) := by
  unfold memV typ
  rw [if_pos rfl]
  cases str (Tx.bare l) with
  | none => rfl
  | some y =>
    simp only [Option.bind_some]
    split <;> rfl
theorem memV_list (l : List UInt8) (o : Bool) : memV listN l o = (polys l o).map fun y => (.coords y.1, y.2) := by
  unfold memV
  rw [if_neg listN_ne, if_pos rfl]
theorem memV_other {c : List Int} (h1 : c ≠ typeN) (h2 : c ≠ listN) (l : List UInt8) (o : Bool) : memV c l o = (rd 16 l).map fun y => (.other, y.2, o) := by
  unfold memV
  rw [if_neg h1, if_neg h2]
/-- A member, told by its name and its value. -/
theorem memS_of {l l3 l4 : List UInt8} {o o4 b3 b4 : Bool} {c : List Int} {a : M} (p3 : name l = if b3 = true then none else some (c, l3)) (p4 : (if b3 = true then none else memV c l3 o) = if b4 = true then none else some (a, l4, o4)) : (if false = true then none else memS l o) = if b4 = true then none else some (a, l4, o4) := by
  simp only [Bool.false_eq_true, if_false]
  rw [memS_name, p3]
  cases b3
  · exact p4
  · exact p4
theorem bad_map {α β : Type} {P : Option α} {R : Option β} {f : α → β} {b3 b4 : Bool} {x : α} (h : (if b3 = true then none else P) = if b4 = true then none else some x) : (if b3 = true then none else P.map f) = if b4 = true then none else some (f x) := by
  cases b3
  · simp only [Bool.false_eq_true, if_false] at h ⊢
    rw [h]
    cases b4 <;> rfl
  · simp only [if_true] at h ⊢
    cases b4
    · cases h
    · rfl
theorem types_snoc (r : List M) (a : M) : types (r ++ [a]) = types r + (if a.isT = true then 1 else 0) := by
  unfold types
  rw [List.filter_append, List.length_append]
  cases h : a.isT <;> simp [h]
theorem places_type (r : List M) : places (r ++ [.type]) = places r := by simp [places, M.co]
theorem places_other (r : List M) : places (r ++ [.other]) = places r := by simp [places, M.co]
theorem places_coords (r : List M) (m : Mult) : places (r ++ [.coords m]) = places r ++ [m] := by simp [places, M.co]
theorem last_type (r : List M) : last (r ++ [.type]) = last r := by unfold last; rw [places_type]
theorem last_other (r : List M) : last (r ++ [.other]) = last r := by unfold last; rw [places_other]
theorem last_coords (r : List M) (m : Mult) : last (r ++ [.coords m]) = m := by unfold last; rw [places_coords]; simp
theorem types_le (r : List M) : types r ≤ r.length := List.length_filter_le _ _
theorem places_le (r : List M) : (places r).length ≤ r.length := List.length_filterMap_le _ _
theorem set_of {l l' : List UInt8} {bad off : Bool} {r : List M} (h : list 123 125 memS l false = if bad = true then none else some (r, l', off)) : set l = if (bad || !fit r) = true then none else some (last r, l', off) := by
  unfold set
  rw [h]
  cases bad
  · simp only [Bool.false_eq_true, if_false, Option.bind_some, Bool.false_or]
    cases fit r <;> rfl
  · rfl
end Js

def TvPost (l : List UInt8) (bad off : Bool) (rb : Nat) (w : World) (e : Ending) (w' : World) : Prop :=
  ∃ (l' : List UInt8) (bad' : Bool), e = .returned (.tuple #[]) ∧ RT w' rb l' bad' off ∧ Fr (· = rb) w w' ∧ (if bad = true then none else Js.typ l) = (if bad' = true then none else some l') ∧ l'.length ≤ l.length

theorem Js.typ_of {l l1 : List UInt8} {bad b1 : Bool} {c : List Int} (p1 : (if bad = true then none else Js.str (Tx.bare l)) = if b1 = true then none else some (c, l1)) : (if bad = true then none else Js.typ l) = if (b1 || !decide (c = Js.typeT)) = true then none else some l1 := by
  unfold Js.typ
  cases bad
  · simp only [Bool.false_eq_true, if_false] at p1 ⊢
    rw [p1]
    cases b1
    · by_cases h : c = Js.typeT <;> simp [h]
    · rfl
  · simp only [if_true] at p1 ⊢
    cases b1
    · cases p1
    · rfl

set_option maxRecDepth 100000 in
set_option maxHeartbeats 4000000 in
theorem typeValue_any (l : List UInt8) (bad off : Bool) (rb : Nat) (w : World) (hr : RT w rb l bad off) (hl : l.length ≤ 6000) :
    Calls Tryz.prog 129 #[.pointer (some ⟨rb, 0, none⟩)] w (TvPost l bad off rb w) := by
  have HR := hide hr
  clear hr
  go_enter Tryz.func129, Tryz.ntmps129
  go_wp2_with fail
  refine (characters_any l bad off rb _ HR.out hl).mono ?_
  rintro e w1 ⟨v, c, l1, b1, rfl, ho, h1, u1, p1, hl1, hcl⟩
  have HP := hide (Js.typ_of p1)
  have HS := hide (same_any c [77, 117, 108, 116, 105, 80, 111, 108, 121, 103, 111, 110] _ v w1 ho hcl (by simp))
  replace h1 := hide h1
  replace u1 := hide u1
  clear ho p1
  by_cases hc : c = Js.typeT
  · have HD : Hid (decide (c = Js.up [77, 117, 108, 116, 105, 80, 111, 108, 121, 103, 111, 110]) = true) := by rw [hc]; rfl
    have HPT : Hid ((if bad = true then none else Js.typ l) = if b1 = true then none else some l1) := by
      show _ = _
      rw [HP.out, decide_eq_true hc]
      simp
    rw [HD.out] at HS
    clear hc
    go_wp2_with fail
    refine HS.out.mono ?_
    rintro e w2 ⟨rfl, n, rfl⟩
    go_wp2
    refine bodyPost_ret (v := .tuple #[]) (by simp [results, Tryz.results129, go_sem]) rfl ?_
    exact ⟨l1, b1, rfl, VRow.drewN h1.out n, u1.out.drewN n, HPT.out, hl1⟩
  · have HD : Hid (decide (c = Js.up [77, 117, 108, 116, 105, 80, 111, 108, 121, 103, 111, 110]) = false) := decide_eq_false hc
    have HPT : Hid ((if bad = true then none else Js.typ l) = none) := by
      show _ = _
      rw [HP.out, decide_eq_false hc]
      simp
    rw [HD.out] at HS
    clear hc
    go_wp2_with fail
    refine HS.out.mono ?_
    rintro e w2 ⟨rfl, n, rfl⟩
    have h2 : RT (w1.drewN n) rb l1 b1 off := VRow.drewN h1.out n
    have c1 := h2.c1
    have f1 := h2.f 1
    replace h2 := hide h2
    go_wp2
    refine bodyPost_ret (v := .tuple #[]) (by simp [results, Tryz.results129, go_sem]) rfl ?_
    exact ⟨l1, true, rfl, h2.out.bad true, (u1.out.drewN n).setCell (p := ⟨rb, 1, none⟩) rfl _, HPT.out, hl1⟩
end Go.Proofs.YtoanonklmmbhgaaGreatDoor
