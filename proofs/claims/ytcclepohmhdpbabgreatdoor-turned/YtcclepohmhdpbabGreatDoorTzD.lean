import Derived.Test.YtcclepohmhdpbabGreatDoorTzC
namespace Go.Proofs.YtcclepohmhdpbabGreatDoor
set_option linter.all false
open Go.RowKit Go.Deep
theorem div_rng {c : Int} (h1 : -9223372036854775808 ≤ c) (h2 : c ≤ 9223372036854775807) (t : Nat) : -9223372036854775808 ≤ c / 2 ^ t ∧ c / 2 ^ t ≤ 9223372036854775807 := by
  have hp : (0 : Int) < 2 ^ t := Int.pow_pos (by decide)
  constructor
  · apply Int.le_ediv_of_mul_le hp
    have : (1 : Int) ≤ 2 ^ t := hp
    have k : (-9223372036854775808 : Int) * 2 ^ t ≤ -9223372036854775808 * 1 := Int.mul_le_mul_of_nonpos_left (by decide) this
    omega
  · by_cases h0 : 0 ≤ c
    · exact Int.le_trans (Int.ediv_le_self _ h0) h2
    · have := Int.ediv_neg_of_neg_of_pos (show c < 0 by omega) hp
      omega
def tK (A : Int) (j n : Nat) : Nat := pkN (A / 2 ^ (3 * j % 30)) n
def tS (B : Int) (j : Nat) : Bool := decide (bits .and .i64 (B / 2 ^ (j % 30)) 1 = 1)
theorem tK_lt (A : Int) (j n : Nat) (h : 0 < n) : tK A j n < n := pkN_lt _ h
theorem vint_succ (q : Nat) : Value.int .i64 ((q : Int) + 1) = Value.int .i64 ((q + 1 : Nat) : Int) := by rw [Int.natCast_add]; rfl
theorem meas_succ {L q : Nat} (h : q < L) : L - (intOf (Value.int .i64 ((q : Int) + 1))).toNat < L - (intOf (Value.int .i64 (q : Int))).toNat := by
  show L - ((q : Int) + 1).toNat < L - ((q : Int)).toNat
  omega
theorem sw_nums {nh hf i : Nat} (h0 : hf * 2 ≤ nh) (hL : nh ≤ 1048576) (hi : i < hf) : wrap64 ((i : Int) + 1) = (i : Int) + 1 ∧ wrap64 ((nh : Int) - 1) = (nh : Int) - 1 ∧ wrap64 ((nh : Int) - 1 - (i : Int)) = ((nh - 1 - i : Nat) : Int) ∧ nh - 1 - i < nh ∧ i < nh ∧ i ≠ nh - 1 - i := by
  refine ⟨w64 (by omega) (by omega), w64 (by omega) (by omega), ?_, by omega, by omega, by omega⟩
  rw [w64 (by omega) (by omega)]; omega
theorem half_nums (n : Nat) (h : n ≤ 1048577) : ((n : Int).tdiv 2 = ((n / 2 : Nat) : Int)) ∧ n / 2 * 2 ≤ n ∧ n < n / 2 * 2 + 2 ∧ wrap64 ((n / 2 : Nat) : Int) = ((n / 2 : Nat) : Int) := by
  refine ⟨?_, by omega, by omega, w64 (by omega) (by omega)⟩
  rw [Int.tdiv_eq_ediv_of_nonneg (by omega)]; omega
theorem TD.fr {S : Nat → Prop} {N : Nat} {w w' : World} {x : D2} {l : Poly} (h : TD N w x l) (k : Fr S w w') (hx : ¬ S x.b) (hs : ∀ b, N ≤ b → ¬ S b) : TD N w' x l := by
  obtain ⟨ys, e1, e2, e3⟩ := h
  exact ⟨ys, e1, k.row e2 hx, e3.fr k hs⟩
def HwI (N : Nat) (w wz : World) (x : D2) (y0 : D1) (yt : List D1) (i : Nat) : Prop := ∃ L' : List D1, Fr (fun b => b = x.b) w wz ∧ VRow wz x.b 46 ((y0 :: L').map D1.v) ∧ RvI yt i L' ∧ Yok wz N (y0 :: yt)
def PwI (w wz : World) (d : D3) (i : Nat) : Prop := ∃ L' : List D2, Fr (fun b => b = d.b) w wz ∧ VRow wz d.b 45 (L'.map D2.v) ∧ RvI d.ps i L'
def SwI (w wz : World) (cb : Nat) (X : Ring) (i : Nat) : Prop := ∃ L' : Ring, Up w wz ∧ PRow wz cb L' ∧ RvI X i L'
set_option maxRecDepth 100000 in
set_option maxHeartbeats 8000000 in
theorem turned_any (bd b : Nat) (m : Mult) (d0 : D3) (A B : Int) (hA1 : -9223372036854775808 ≤ A) (hA2 : A ≤ 9223372036854775807) (hB1 : -9223372036854775808 ≤ B) (hB2 : B ≤ 9223372036854775807) (w : World) (hrow : VRow w bd 36 [.pointer (some ⟨b, 0, none⟩)]) (hs : Set3 w (.pointer (some ⟨b, 0, none⟩)) m b d0) (hw : Pl.wrong m = 0) (ht : TabD w) :
    Calls Tryz.prog 10 #[.pointer (some ⟨bd, 0, none⟩), .int .i64 A, .int .i64 B] w fun e w' => e = .returned (.bool true) ∧ Up w w' := by
  have HTb := hide ht
  have HR := hide hrow
  have HS := hide hs.r
  have HW := hide hw
  have hz := sz_of hw
  have HZ := hide hz
  have HBd := hide (bd_sz hz)
  have HG := hide (Vd.good_of hw)
  have HA : Hid (∀ t : Nat, -9223372036854775808 ≤ A / 2 ^ t ∧ A / 2 ^ t ≤ 9223372036854775807) := fun t => div_rng hA1 hA2 t
  clear ht hs hw hz hA1 hA2 hB1 hB2
  have r0 := hrow.cell (i := 0) rfl
  have KP := hide (points_c _ m w b d0.v HS.out HBd.out)
  go_enter Tryz.func10, Tryz.ntmps10
  go_wp2_with fail
  refine KP.out.mono ?_
  rintro e w1 ⟨d, rfl, hok, hm', hbare, hnd, hbl, hu⟩
  have HND := hide hnd
  have HBL := hide hbl
  have HM := hide hm'
  have HBR := hide hbare
  have HN : Hid (∀ b ∈ d.bl, b < w1.heap.size) := hok.lt
  have hst : Hid (TP w1.heap.size (Vd.tL (tK A) (tS B)) w w1 d 0) := by
    refine ⟨hu, Nat.le_refl _, ?_, fun j x hj => by omega, fun j x _ hx => hok.sub x (List.mem_append_left _ (Pl.mem_of_some hx))⟩
    have := hok.row
    rw [hbare.1, List.append_nil] at this
    exact this
  have HL3 : Hid (d.ps.length ≤ 1048576 ∧ ∀ x ∈ d.ps, (x.rs.length ≤ 1048576 ∧ 0 < x.rs.length) ∧ ∀ y ∈ x.rs, Vd.Shut y.r ∧ y.r.length ≤ 1048576) := by
    have hb := HBd.out
    rw [← hm'] at hb
    have hg := HG.out
    rw [← hm'] at hg
    refine ⟨by have := hb.len; simpa [D3.m] using this, fun x hx => ⟨⟨?_, ?_⟩, fun y hy => ⟨hg.shut x.pts (List.mem_map_of_mem hx) y.r (List.mem_map_of_mem hy), hb.ring x.pts (List.mem_map_of_mem hx) y.r (List.mem_map_of_mem hy)⟩⟩⟩
    · have := hb.poly x.pts (List.mem_map_of_mem hx); simpa [D2.pts] using this
    · have := hg.ne x.pts (List.mem_map_of_mem hx)
      have : x.rs ≠ [] := fun e => this (by unfold D2.pts; rw [e]; rfl)
      exact List.length_pos_iff.2 this
  clear hok hm' hbare hnd hbl hu KP r0 hrow
  rw [D3.v]
  have hl3 := HL3.out.1
  generalize hN1 : w1.heap.size = N at *
  go_wp2_with fail
  go_loopw [8] (fun i wq => ∃ p : Nat, p ≤ d.ps.length ∧ i = .int .i64 p ∧ TP N (Vd.tL (tK A) (tS B)) w wq d p) (fun i _ => d.ps.length - (intOf i).toNat)
  case atStart => exact ⟨0, Nat.zero_le _, rfl, hst.out⟩
  case round =>
    obtain ⟨p, hp, rfl, hsp⟩ := hrel
    have hsp' := hide hsp
    by_cases hlt : p < d.ps.length
    · obtain ⟨x, hx⟩ := Pl.some_of_lt hlt
      have hx' := hide hx
      obtain ⟨⟨hxl, hxp⟩, hyl0⟩ := HL3.out.2 x (Pl.mem_of_some hx)
      have hyl := hide hyl0
      have hxc := hsp.row.cell (i := p) (v := .slice (some ⟨x.b, 0, none⟩) x.rs.length (x.rs.length + x.s.length)) (by simp only [List.getElem?_map, hx]; rfl)
      have hxc' := hide hxc
      have hxo := hide (hsp.todo p x (Nat.le_refl _) hx)
      have hxs : Hid (x.s = []) := (HBR.out.2 x (Pl.mem_of_some hx)).1
      have hys : Hid (∀ y ∈ x.rs, y.s = []) := (HBR.out.2 x (Pl.mem_of_some hx)).2
      have hNw : Hid (N ≤ wr.heap.size) := hsp.sz
      have hxb : Hid (x.b < N) := HN.out _ (D3.mem_sub (Pl.mem_of_some hx) (by simp [D2.bl]))
      clear hsp hx hyl0
      go_wp2
      clear hxc
      have htr : Hid (TR N (Vd.tU (tK A) (tS B) 0 x.pts) wr wr x 0 []) := by
        refine ⟨Fr.refl _ _, rfl, rfl, ?_, ⟨fun y hy => (by cases hy), fun y hy => (by cases hy), fun y hy => (by cases hy)⟩⟩
        have := hxo.out.row
        rw [hxs.out, List.append_nil] at this
        exact this
      obtain ⟨w8, hw8⟩ : ∃ z, z = wr := ⟨_, rfl⟩
      subst hw8
      go_loopw [9] (fun j wq => ∃ (q : Nat) (ys : List D1), q ≤ x.rs.length ∧ j = .int .i64 q ∧ TR N (Vd.tU (tK A) (tS B) 0 x.pts) w8 wq x q ys) (fun j _ => x.rs.length - (intOf j).toNat)
      case atStart => exact ⟨0, [], Nat.zero_le _, rfl, htr.out⟩
      case round =>
        obtain ⟨q, ys, hq, rfl, hrl⟩ := hrel
        have hrl' := hide hrl
        have hdx : Hid (d.b ≠ x.b) := fun e => D3.ne_sub HND.out (Pl.mem_of_some hx'.out) (by rw [e]; simp [D2.bl])
        have ec := hrl.fr.cell hxc'.out (fun h => hdx.out h)
        by_cases hlq : q < x.rs.length
        · obtain ⟨y, hy⟩ := Pl.some_of_lt hlq
          have hy' := hide hy
          obtain ⟨hsh0, hyb⟩ := hyl.out y (Pl.mem_of_some hy)
          have hsh := hide hsh0
          have h4 := hsh0.len
          have ec2 := hrl.row.cell (i := q) (v := .slice (some ⟨y.b, 0, none⟩) y.r.length (y.r.length + y.s.length)) (by
            rw [List.getElem?_map, List.getElem?_append_right (by rw [hrl.len]; omega), hrl.len, Nat.sub_self, List.getElem?_drop, Nat.add_zero, hy]; rfl)
          have ecH := hide ec
          have ec2H := hide ec2
          have hyo : Hid (OK1 wr y) := hrl.fr.ok1 (hxo.out.sub y (List.mem_append_left _ (Pl.mem_of_some hy))) (fun e => by
            have hxn := D3.sub_nodup HND.out (Pl.mem_of_some hx'.out)
            exact D2.ne_sub hxn (Pl.mem_of_some hy) e.symm)
          have t1 : wrap64 (3 * (q : Int)) = 3 * (q : Int) := w64 (by omega) (by omega)
          have t2 : (3 * (q : Int)).tmod 30 = ((3 * q % 30 : Nat) : Int) := by
            rw [Int.tmod_eq_emod_of_nonneg (by omega)]; omega
          have t3 : 3 * q % 30 ≤ 30 := by omega
          have hKe : Hid (tK A q (y.r.length - 1) = pkN (A / 2 ^ (3 * q % 30)) (y.r.length - 1)) := rfl
          have hAt := hide (HA.out (3 * q % 30))
          generalize 3 * q % 30 = t at *
          obtain ⟨n, hn⟩ : ∃ n : Nat, y.r.length = n + 1 := ⟨y.r.length - 1, by omega⟩
          rw [hn] at ec2 hyb h4 hKe
          have t4 : wrap64 ((n : Int) + 1 - 1) = (n : Int) := by rw [Int.add_sub_cancel]; exact w64 (by omega) (by omega)
          have KPk := hide (fun w => pickn_any (A / 2 ^ t) hAt.out.1 hAt.out.2 n (by omega) w)
          clear hrl hy hsh0
          go_wp2_with fail
          clear ec ec2
          refine (KPk.out wr).mono ?_
          rintro e w2 ⟨rfl, hw2⟩
          rw [hw2]
          clear hw2 KPk
          have hk : pkN (A / 2 ^ t) n < n := pkN_lt _ (by omega)
          rw [Nat.add_sub_cancel] at hKe
          have hX : Hid (Vd.tR (tK A) (tS B) q y.r = if tS B q then (Vd.rotR y.r (pkN (A / 2 ^ t) n)).reverse else Vd.rotR y.r (pkN (A / 2 ^ t) n)) := by
            unfold Vd.tR Vd.per
            rw [hn, Nat.add_sub_cancel, hKe.out]
            exact rfl
          generalize pkN (A / 2 ^ t) n = k at *
          have hper : Hid (Vd.per y.r = n) := by unfold Vd.per; rw [hn]; rfl
          have hXl : Hid ((Vd.rotR y.r k).length = n + 1) := by rw [Vd.rotR_len hsh.out]; exact hn
          have hmk := make_pts (n + 1) (by omega)
          rw [show ((n + 1 : Nat) : Int) = (n : Int) + 1 by omega] at hmk
          have t5 : wrap64 ((n : Int) + 1) = (n : Int) + 1 := w64 (by omega) (by omega)
          have hc0 : Hid (PRow (wr.alloc (.cells (flat (zpts (n + 1))).toArray 48)) wr.heap.size (cpy (Vd.rotR y.r k) 0)) := by
            rw [cpy_zero, hXl.out]; exact VRow.new wr _ _
          have hk' := hide hk
          have Hh4 := hide h4
          have Hhyb := hide hyb
          have Hlq := hide hlq
          have Hlt := hide hlt
          generalize flat (zpts (n + 1)) = fz at *
          clear hKe t1 t2 t4 hAt hk h4 hyb hlq hlt hl3 hxl hxp hq hp t3
          have hXq : Hid ((Vd.tU (tK A) (tS B) 0 x.pts)[q]? = some (Vd.tR (tK A) (tS B) q y.r)) := by
            show _ = _
            rw [Vd.tU_at, Nat.zero_add, D2.pts, List.getElem?_map, hy'.out]; rfl
          go_wp2
          clear hmk t5
          obtain ⟨w9, hw9⟩ : ∃ z, z = wr := ⟨_, rfl⟩
          subst hw9
          have hn0 : ((n : Int) == 0) = false := beq_eq_false_iff_ne.2 (by have := Hh4.out; omega)
          have hn1 : ((n : Int) = 0) = False := eq_false (by have := Hh4.out; omega)
          go_loopw [14] (fun j wz => ∃ i : Nat, i ≤ n + 1 ∧ j = .int .i64 i ∧ Up w9 wz ∧ PRow wz w9.heap.size (cpy (Vd.rotR y.r k) i)) (fun j _ => n + 1 - (intOf j).toNat)
          case atStart => exact ⟨0, Nat.zero_le _, rfl, (Up.refl _).alloc _, hc0.out⟩
          case round =>
            obtain ⟨i, hi, rfl, hfz, hpz⟩ := hrel
            have hfz' := hide hfz
            have hpz' := hide hpz
            have hi' := hide hi
            by_cases hli : i ≤ n
            · have hkn := hk'.out
              have h4 := Hh4.out
              have hyb := Hhyb.out
              have hsl : (i + k) % n < n := Nat.mod_lt _ (by omega)
              have u1 : wrap64 ((i : Int) + (k : Int)) = (i : Int) + (k : Int) := w64 (by omega) (by omega)
              have u3 : wrap64 ((i : Int) + 1) = (i : Int) + 1 := w64 (by omega) (by omega)
              have u2 : ((i : Int) + (k : Int)).tmod (n : Int) = (((i + k) % n : Nat) : Int) := by
                rw [Int.tmod_eq_emod_of_nonneg (by omega), Int.natCast_emod, Int.natCast_add]
              have hXi : Hid ((Vd.rotR y.r k)[i]? = some (Vd.ptAt y.r ((i + k) % n))) := by
                have := rotR_get (r := y.r) (k := k) (i := i) (by rw [hper.out]; omega)
                rw [hper.out] at this
                exact this
              have hyg : Hid ((y.r ++ y.s)[(i + k) % n]? = some (Vd.ptAt y.r ((i + k) % n))) := by
                rw [List.getElem?_append_left (by omega)]
                exact Vd.ptAt_get (by omega)
              obtain ⟨k1, k2⟩ := PRow.cells (hyo.out.up hfz) hyg.out
              generalize (i + k) % n = s at *
              generalize Vd.ptAt y.r s = pt at *
              obtain ⟨px, py⟩ := pt
              obtain ⟨k3, k4⟩ := hpz.cells (cpy_at (X := Vd.rotR y.r k) (i := i) (by rw [hXl.out]; omega))
              have f1 := VRow.frozen hpz (i * 2)
              have f2 := VRow.frozen hpz (i * 2 + 1)
              simp only at k1 k2 k3 k4
              clear hfz hpz hkn h4 hyb
              go_wp2
              rw [u3]
              refine ⟨⟨i + 1, Nat.succ_le_succ hli, vint_succ _, (hfz'.out.setCell (Nat.le_refl _) _).setCell (Nat.le_refl _) _, ?_⟩, ?_⟩
              · have := hpz'.out.set i (px, py)
                rw [cpy_step hXi.out] at this
                exact this
              · exact meas_succ (Nat.lt_succ_of_le hli)
            · obtain rfl : i = n + 1 := by have := hi'.out; omega
              have hpX : Hid (PRow wr w9.heap.size (Vd.rotR y.r k)) := by
                have := hpz
                rw [← hXl.out, cpy_full] at this
                exact this
              have hcb : Hid (w9.heap.size < wr.heap.size) := hpz.lt
              have ecz := hfz.cell ecH.out
              have ec2z := hfz.cell ec2H.out
              have t7 : (q : Int).tmod 30 = ((q % 30 : Nat) : Int) := by
                rw [Int.tmod_eq_emod_of_nonneg (by omega)]; omega
              have t8 : q % 30 ≤ 30 := by omega
              have hSe : Hid (tS B q = decide (bits .and .i64 (B / 2 ^ (q % 30)) 1 = 1)) := rfl
              generalize q % 30 = t at *
              have fzx := VRow.frozen (hrl'.out.row.up hfz) q
              clear hfz hpz hpz' hi hi' hc0
              by_cases hb : bits .and .i64 (B / 2 ^ t) 1 = 1
              · have hSt : Hid (Vd.tR (tK A) (tS B) q y.r = (Vd.rotR y.r k).reverse) := by
                  have : tS B q = true := by rw [hSe.out, hb]; rfl
                  show _ = _
                  rw [hX.out, this]; rfl
                clear hSe hX
                go_wp2
                have hsw : Hid (SwI w9 wr w9.heap.size (Vd.rotR y.r k) 0) := ⟨_, hfz'.out, hpX.out, RvI.zero _⟩
                clear hb t7 t8 ecz ec2z fzx
                have v1 : ((n : Int) + 1).tdiv 2 = (((n + 1) / 2 : Nat) : Int) := by
                  rw [Int.tdiv_eq_ediv_of_nonneg (by omega)]; omega
                have v0 : Hid ((n + 1) / 2 * 2 ≤ n + 1) := by show _ ≤ _; omega
                have v9 : Hid (n + 1 < (n + 1) / 2 * 2 + 2) := by show _ < _; omega
                have v2 : wrap64 (((n + 1) / 2 : Nat) : Int) = (((n + 1) / 2 : Nat) : Int) := w64 (by omega) (by have := Hhyb.out; omega)
                generalize (n + 1) / 2 = hf at *
                go_loopw [15] (fun j wz => ∃ i : Nat, i ≤ hf ∧ j = .int .i64 i ∧ SwI w9 wz w9.heap.size (Vd.rotR y.r k) i) (fun j _ => hf - (intOf j).toNat)
                case atStart => exact ⟨0, Nat.zero_le _, rfl, hsw.out⟩
                case round =>
                  obtain ⟨i, hi, rfl, hsi⟩ := hrel
                  have hsi' := hide hsi
                  obtain ⟨L', hfz, hpz, hrv⟩ := hsi
                  have hi' := hide hi
                  by_cases hli : i < hf
                  · have hXn := hXl.out
                    have h4 := Hh4.out
                    have hyb := Hhyb.out
                    have hv0 := v0.out
                    have hlo := hrv.lo (by rw [hXn]; omega)
                    have hhi := hrv.hi (by rw [hXn]; omega)
                    have hXi := Vd.ptAt_get (r := Vd.rotR y.r k) (i := i) (by rw [hXn]; omega)
                    have hXj := Vd.ptAt_get (r := Vd.rotR y.r k) (i := n - i) (by rw [hXn]; omega)
                    rw [hXn, show n + 1 - 1 - i = n - i by omega, hXj] at hhi
                    rw [hXi] at hlo
                    have hst := hide (hrv.step (by rw [hXn]; omega) hXi (by rw [hXn, show n + 1 - 1 - i = n - i by omega]; exact hXj))
                    rw [hXn, show n + 1 - 1 - i = n - i by omega] at hst
                    have u3 : wrap64 ((i : Int) + 1) = (i : Int) + 1 := w64 (by omega) (by omega)
                    have u4 : wrap64 ((n : Int) - (i : Int)) = ((n - i : Nat) : Int) := by rw [w64 (by omega) (by omega)]; omega
                    have u5 : n - i < n + 1 := by omega
                    have u6 : i < n + 1 := by omega
                    have u7 : i ≠ n - i := by omega
                    have HXi := hide hXi
                    have HXj := hide hXj
                    generalize n - i = z at *
                    clear hXi hXj
                    generalize Vd.ptAt (Vd.rotR y.r k) i = pi at *
                    generalize Vd.ptAt (Vd.rotR y.r k) z = pj at *
                    obtain ⟨xi, yi⟩ := pi
                    obtain ⟨xj, yj⟩ := pj
                    obtain ⟨k1, k2⟩ := hpz.cells hlo
                    obtain ⟨k3, k4⟩ := hpz.cells hhi
                    have f1 := VRow.frozen hpz (i * 2)
                    have f2 := VRow.frozen hpz (i * 2 + 1)
                    have f3 := VRow.frozen hpz (z * 2)
                    have f4 := VRow.frozen hpz (z * 2 + 1)
                    have hne : w9.heap.size ≠ wr.heap.size := by have := hpz.lt; omega
                    simp only at k1 k2 k3 k4
                    have HF := hide hfz
                    have HP := hide hpz
                    have Hlo := hide hlo
                    have Hhi := hide hhi
                    clear hrv hfz hpz h4 hyb hlo hhi hXn hv0 f1 f2 f3 f4
                    have k1a := fun o => ((Up.refl wr).alloc o).cell k1
                    have k2a := fun o => ((Up.refl wr).alloc o).cell k2
                    go_upto_region 20 with fail
                    go_cut [16] from 84 to 109 (fun pv wc => ∃ Bx : Nat, pv = .pointer (some ⟨Bx, 0, none⟩) ∧ Hid (wr.heap.size ≤ Bx) ∧ Hid (Up wr wc) ∧ Hid (VRow wc Bx 48 [.int .i64 xi, .int .i64 yi]))
                    case first =>
                      go_wp2
                      go_meet
                      case rel => exact ⟨wr.heap.size, rfl, Nat.le_refl _, (Up.refl _).alloc _, VRow.new wr _ _⟩
                    case rest =>
                      obtain ⟨Bx, rfl, hBx, hUc, hVx⟩ := hcut
                      clear k1a k2a k1 k2 k3 k4
                      have hP1 : PRow wc w9.heap.size L' := VRow.up HP.out hUc.out
                      have hcl := HP.out.lt
                      have hnx : w9.heap.size ≠ Bx := by have := hBx.out; omega
                      have hnx2 : Bx ≠ w9.heap.size := fun e => hnx e.symm
                      obtain ⟨k3, k4⟩ := hP1.cells Hhi.out
                      obtain ⟨k1, k2⟩ := hP1.cells Hlo.out
                      have f1 := VRow.frozen hP1 (i * 2)
                      have f2 := VRow.frozen hP1 (i * 2 + 1)
                      have HP1 := hide hP1
                      have hP2 := hide (PRow.set hP1 i (xj, yj))
                      have c0 := ((hVx.out.setOther (a := ⟨w9.heap.size, i * 2, none⟩) hnx2 (.int .i64 xj)).setOther (a := ⟨w9.heap.size, i * 2 + 1, none⟩) hnx2 (.int .i64 yj)).cell (i := 0) rfl
                      have c1 := ((hVx.out.setOther (a := ⟨w9.heap.size, i * 2, none⟩) hnx2 (.int .i64 xj)).setOther (a := ⟨w9.heap.size, i * 2 + 1, none⟩) hnx2 (.int .i64 yj)).cell (i := 1) rfl
                      obtain ⟨k5, k6⟩ := hP2.out.cells (i := z) (p := (xj, yj)) (by rw [List.getElem?_set_ne u7]; exact Hhi.out)
                      have f3 := VRow.frozen hP2.out (z * 2)
                      have f4 := VRow.frozen hP2.out (z * 2 + 1)
                      simp only at k1 k2 k3 k4 k5 k6
                      clear hP1 hcl
                      go_wp2
                      rw [u3]
                      refine ⟨⟨i + 1, hli, vint_succ _, (L'.set i (xj, yj)).set z (xi, yi), ((((HF.out.trans hUc.out).setCell (Nat.le_refl _) _).setCell (Nat.le_refl _) _).setCell (Nat.le_refl _) _).setCell (Nat.le_refl _) _, PRow.set hP2.out z (xi, yi), hst.out⟩, ?_⟩
                      exact meas_succ hli
                  · have hfe : i = hf := by omega
                    have e : L' = (Vd.rotR y.r k).reverse := hrv.last (by rw [hXl.out]; have := v0.out; have := v9.out; omega)
                    rw [e] at hpz
                    have hpR := hide hpz
                    have hfR := hide hfz
                    have ecz := hfz.cell ecH.out
                    have ec2z := hfz.cell ec2H.out
                    have fzx := VRow.frozen (hrl'.out.row.up hfz) q
                    have hRl : Hid ((Vd.rotR y.r k).reverse.length = n + 1) := by show _ = _; rw [List.length_reverse]; exact hXl.out
                    clear hrv hfz hpz e hsi' hi hfe
                    go_wp2
                    have hqL : wrap64 ((q : Int) + 1) = (q : Int) + 1 := w64 (by omega) (by have := Hlq.out; have := (HL3.out.2 x (Pl.mem_of_some hx'.out)).1.1; omega)
                    have := hrl'.out.step (Nat.le_trans hNw.out hrl'.out.fr.size) hxb.out Hlq.out (hXq.out.trans (congrArg some hSt.out)) (Nat.le_refl _) hfR.out hpR.out
                    rw [hRl.out] at this
                    rw [hqL]
                    exact ⟨⟨q + 1, _, Hlq.out, vint_succ _, this⟩, meas_succ Hlq.out⟩
              · have hb' := beq_eq_false_iff_ne.2 hb
                have hSt : Hid (Vd.tR (tK A) (tS B) q y.r = Vd.rotR y.r k) := by
                  have : tS B q = false := by rw [hSe.out]; exact decide_eq_false hb
                  show _ = _
                  rw [hX.out, this]; rfl
                clear hSe hX
                go_wp2
                have hqL : wrap64 ((q : Int) + 1) = (q : Int) + 1 := w64 (by omega) (by have := Hlq.out; have := (HL3.out.2 x (Pl.mem_of_some hx'.out)).1.1; omega)
                have := hrl'.out.step (Nat.le_trans hNw.out hrl'.out.fr.size) hxb.out Hlq.out (hXq.out.trans (congrArg some hSt.out)) (Nat.le_refl _) hfz'.out hpX.out
                rw [hXl.out] at this
                rw [hqL]
                exact ⟨⟨q + 1, _, Hlq.out, vint_succ _, this⟩, meas_succ Hlq.out⟩
        · obtain rfl : q = x.rs.length := by omega
          have hl0 : Hid (0 < x.rs.length) := (HL3.out.2 x (Pl.mem_of_some hx'.out)).1.2
          obtain ⟨y0, yt, hys0⟩ : ∃ y0 yt, ys = y0 :: yt := by
            cases ys with
            | nil => have := hrl.len; have := hl0.out; simp at *; omega
            | cons y0 yt => exact ⟨y0, yt, rfl⟩
          subst hys0
          have hyt : yt.length + 1 = x.rs.length := hrl.len
          have hHw : Hid (HwI N w8 wr x y0 yt 0) := by
            refine ⟨yt, hrl.fr, ?_, RvI.zero _, hrl.ok⟩
            have := hrl.row
            rw [List.drop_length, List.append_nil] at this
            exact this
          have hFs : Hid ((y0 :: yt).map D1.r = Vd.tU (tK A) (tS B) 0 x.pts) := by
            have := hrl.rs
            rwa [List.take_of_length_le (by rw [Vd.tU_len, D2.pts, List.length_map]; exact Nat.le_refl _)] at this
          obtain ⟨nh, hnh⟩ : ∃ nh, yt.length = nh := ⟨_, rfl⟩
          have Hnh := hide hnh
          have hxn : x.rs.length = nh + 1 := by rw [← hyt, hnh]
          have HxL : Hid (nh + 1 ≤ 1048576) := by rw [← hxn]; exact hxl
          have hxs' := hxs.out
          rw [hxs', hxn] at ec
          have Hxn := hide hxn
          clear hrl hrl' hq hlq hyt hnh hxl hxp hl3 hp
          have Hlt := hide hlt
          rw [hxn]
          clear hlt hxn hxs'
          have hfin : Hid (∀ wz : World, HwI N w8 wz x y0 yt (nh / 2) → TP N (Vd.tL (tK A) (tS B)) w wz d (p + 1)) := by
            rintro wz ⟨L', q1, q2, q3, q4⟩
            have e : L' = yt.reverse := q3.last (by rw [Hnh.out])
            refine hsp'.out.step HND.out HBL.out HN.out hx'.out q1 ⟨y0 :: L', ?_, q2, ?_⟩
            · rw [e]
              unfold Vd.tL
              rw [← hFs.out, List.map_cons, List.map_cons, Vd.hR, List.map_reverse]
            · rw [e]
              exact ⟨fun z hz => q4.bare z (by simpa using hz), fun z hz => q4.ok z (by simpa using hz), fun z hz => q4.new z (by simpa using hz)⟩
          have hpL : Hid (wrap64 ((p : Int) + 1) = (p : Int) + 1) := w64 (by omega) (by have := Hlt.out; have := HL3.out.1; omega)
          by_cases hz : nh = 0
          · subst hz
            go_wp2
            go_loopw [18] (fun j wz => ∃ i : Nat, i ≤ 0 ∧ j = .int .i64 i ∧ HwI N w8 wz x y0 yt i) (fun j _ => 0 - (intOf j).toNat)
            case atStart => exact ⟨0, Nat.zero_le _, rfl, hHw.out⟩
            case round =>
              obtain ⟨i, hi, rfl, hsi⟩ := hrel
              obtain rfl : i = 0 := by omega
              have hsi' := hide hsi
              clear hsi
              go_wp2
              rw [hpL.out]
              exact ⟨⟨p + 1, Hlt.out, vint_succ _, hfin.out _ hsi'.out⟩, meas_succ Hlt.out⟩
          · go_wp2
            obtain ⟨v1, v0, v9, v2⟩ := half_nums nh (Nat.le_trans (Nat.le_of_succ_le HxL.out) (by decide))
            replace v0 := hide v0
            replace v9 := hide v9
            generalize hhf : nh / 2 = hf at v1 v0 v9 v2 hfin
            have Hhf := hide hhf
            clear hhf
            go_loopw [18] (fun j wz => ∃ i : Nat, i ≤ hf ∧ j = .int .i64 i ∧ HwI N w8 wz x y0 yt i) (fun j _ => hf - (intOf j).toNat)
            case atStart => exact ⟨0, Nat.zero_le _, rfl, hHw.out⟩
            case round =>
              obtain ⟨i, hi, rfl, hsi⟩ := hrel
              have hsi' := hide hsi
              obtain ⟨L', hfr, hrow, hrv, hyo⟩ := hsi
              have hi' := hide hi
              by_cases hli : i < hf
              · have hv0 := v0.out
                have hxL := HxL.out
                have hXn := Hnh.out
                have hhl : i < yt.length / 2 := by rw [hXn, Hhf.out]; exact hli
                have hlo := hrv.lo hhl
                have hhi := hrv.hi hhl
                have hwn := hide (sw_nums hv0 (Nat.le_of_succ_le hxL) hli)
                obtain ⟨yi, hYi⟩ := Pl.some_of_lt (l := yt) (k := i) (by rw [hXn]; exact hwn.out.2.2.2.2.1)
                obtain ⟨yj, hYj⟩ := Pl.some_of_lt (l := yt) (k := nh - 1 - i) (by rw [hXn]; exact hwn.out.2.2.2.1)
                rw [hXn, hYj] at hhi
                rw [hYi] at hlo
                have hst := hide (hrv.step hhl hYi (by rw [hXn]; exact hYj))
                rw [hXn] at hst
                obtain ⟨u3, u8, u4, u5, u6, u7⟩ := sw_nums hv0 (Nat.le_of_succ_le hxL) hli
                generalize nh - 1 - i = z at *
                have c1 := hrow.cell (i := i + 1) (v := .slice (some ⟨yi.b, 0, none⟩) yi.r.length (yi.r.length + yi.s.length)) (by rw [List.map_cons, List.getElem?_cons_succ, List.getElem?_map, hlo]; rfl)
                have c2 := hrow.cell (i := z + 1) (v := .slice (some ⟨yj.b, 0, none⟩) yj.r.length (yj.r.length + yj.s.length)) (by rw [List.map_cons, List.getElem?_cons_succ, List.getElem?_map, hhi]; rfl)
                have f1 := hrow.frozen (i + 1)
                have f2 := hrow.frozen (z + 1)
                have c1' : wr.cell? ⟨x.b, 1 + i, none⟩ = some (.slice (some ⟨yi.b, 0, none⟩) yi.r.length (yi.r.length + yi.s.length)) := by rw [Nat.add_comm 1 i]; exact c1
                have c2' : wr.cell? ⟨x.b, 1 + z, none⟩ = some (.slice (some ⟨yj.b, 0, none⟩) yj.r.length (yj.r.length + yj.s.length)) := by rw [Nat.add_comm 1 z]; exact c2
                have f1' : wr.frozen? ⟨x.b, 1 + i, none⟩ = false := by rw [Nat.add_comm 1 i]; exact f1
                have f2' : wr.frozen? ⟨x.b, 1 + z, none⟩ = false := by rw [Nat.add_comm 1 z]; exact f2
                have hr1 := hrow.set (1 + i) yj.v
                have e1 : ((y0 :: L').map D1.v).set (1 + i) yj.v = (y0 :: L'.set i yj).map D1.v := by rw [Nat.add_comm 1 i]; simp [List.map_set]
                rw [e1] at hr1
                have c3 := hr1.cell (i := 1 + z) (v := .slice (some ⟨yj.b, 0, none⟩) yj.r.length (yj.r.length + yj.s.length)) (by rw [Nat.add_comm 1 z, List.map_cons, List.getElem?_cons_succ, List.getElem?_map, List.getElem?_set_ne u7, hhi]; rfl)
                have f3 := hr1.frozen (1 + z)
                have hr2 := hr1.set (1 + z) yi.v
                have e2 : ((y0 :: L'.set i yj).map D1.v).set (1 + z) yi.v = (y0 :: (L'.set i yj).set z yi).map D1.v := by rw [Nat.add_comm 1 z]; simp [List.map_set]
                rw [e2] at hr2
                rw [D1.v] at c3 f3
                have HR2 := hide hr2
                rw [D1.v, D1.v] at HR2
                clear hr1 hr2 e1 e2
                have HFr := hide hfr
                have HRow := hide hrow
                have HYo := hide hyo
                have Hlo := hide hlo
                have Hhi := hide hhi
                have Hhz := hide hz
                clear hrv hfr hrow hyo hlo hhi hYi hYj hv0 hxL hXn hi hz c1 c2 f1 f2
                go_wp2
                rw [u3]
                exact ⟨⟨i + 1, hli, vint_succ _, (L'.set i yj).set z yi, (HFr.out.setCell rfl _).setCell rfl _, HR2.out, hst.out, HYo.out.fr (S := fun b => b = x.b) (Fr.setCell (S := fun b => b = x.b) (Fr.setCell (S := fun b => b = x.b) (Fr.refl _ _) rfl _) rfl _) (fun b hb e => by have := hxb.out; omega)⟩, meas_succ hli⟩
              · obtain rfl : i = hf := Nat.le_antisymm hi (Nat.not_lt.1 hli)
                clear hfr hrow hrv hyo
                go_wp2
                rw [hpL.out]
                exact ⟨⟨p + 1, Hlt.out, vint_succ _, hfin.out _ hsi'.out⟩, meas_succ Hlt.out⟩
    · obtain rfl : p = d.ps.length := Nat.le_antisymm hp (Nat.not_lt.1 hlt)
      obtain ⟨wp, hwp⟩ : ∃ z, z = wr := ⟨_, rfl⟩
      subst hwp
      have hPw : Hid (PwI wp wp d 0) := ⟨d.ps, Fr.refl _ _, hsp.row, RvI.zero _⟩
      have hds : Hid (d.s = []) := HBR.out.1
      have hTr : Hid (∀ wz : World, ∀ L' : List D2, L' = d.ps.reverse → Fr (fun b => b = d.b) wp wz → VRow wz d.b 45 (L'.map D2.v) → Up w wz ∧ Rd3 wz d.v (Vd.tM (tK A) (tS B) m)) := by
        intro wz L' e hfr hrow
        refine ⟨Fr.up (S := fun b => b = d.b) ((Fr.of_up hsp'.out.up).trans hfr) (fun x hx e => by have := HBL.out d.b (by simp [D3.bl]); omega), ?_⟩
        have := rd_rev (f := Vd.tL (tK A) (tS B)) (Vd.tL_len _ _) (Nat.le_trans hsp'.out.sz hfr.size) e hrow (fun x hx => ⟨(HBR.out.2 x hx).1, by
          obtain ⟨j, hj⟩ := List.mem_iff_getElem?.1 hx
          refine (hsp'.out.done j x (Pl.lt_of_some hj) hj).fr hfr (fun e => D3.ne_sub HND.out hx (by rw [← e]; simp [D2.bl])) (fun b hb e => by have := HN.out d.b (by simp [D3.bl]); omega)⟩) hds.out
        rw [HM.out] at this
        exact this
      have hnL : Hid (d.ps.length ≤ 1048576) := hl3
      clear hsp hp hlt hl3
      obtain ⟨np, hnp⟩ : ∃ np, d.ps.length = np := ⟨_, rfl⟩
      have Hnp := hide hnp
      rw [hnp] at hnL ⊢
      clear hnp
      obtain ⟨v1, v0, v9, v2⟩ := half_nums np (Nat.le_trans hnL.out (by decide))
      replace v0 := hide v0
      replace v9 := hide v9
      generalize hhf : np / 2 = hf at v1 v0 v9 v2
      have Hhf := hide hhf
      clear hhf
      go_wp2
      go_loopw [20] (fun j wz => ∃ i : Nat, i ≤ hf ∧ j = .int .i64 i ∧ PwI wp wz d i) (fun j _ => hf - (intOf j).toNat)
      case atStart => exact ⟨0, Nat.zero_le _, rfl, hPw.out⟩
      case round =>
        obtain ⟨i, hi, rfl, hsi⟩ := hrel
        have hsi' := hide hsi
        obtain ⟨L', hfr, hrow, hrv⟩ := hsi
        by_cases hli : i < hf
        · have hXn := Hnp.out
          have hhl : i < d.ps.length / 2 := by rw [hXn, Hhf.out]; exact hli
          have hlo := hrv.lo hhl
          have hhi := hrv.hi hhl
          have hwn := hide (sw_nums v0.out hnL.out hli)
          obtain ⟨xi, hYi⟩ := Pl.some_of_lt (l := d.ps) (k := i) (by rw [hXn]; exact hwn.out.2.2.2.2.1)
          obtain ⟨xj, hYj⟩ := Pl.some_of_lt (l := d.ps) (k := np - 1 - i) (by rw [hXn]; exact hwn.out.2.2.2.1)
          rw [hXn, hYj] at hhi
          rw [hYi] at hlo
          have hst := hide (hrv.step hhl hYi (by rw [hXn]; exact hYj))
          rw [hXn] at hst
          obtain ⟨u3, u8, u4, u5, u6, u7⟩ := sw_nums v0.out hnL.out hli
          generalize np - 1 - i = z at *
          have c1 := hrow.cell (i := i) (v := .slice (some ⟨xi.b, 0, none⟩) xi.rs.length (xi.rs.length + xi.s.length)) (by rw [List.getElem?_map, hlo]; rfl)
          have c2 := hrow.cell (i := z) (v := .slice (some ⟨xj.b, 0, none⟩) xj.rs.length (xj.rs.length + xj.s.length)) (by rw [List.getElem?_map, hhi]; rfl)
          have f1 := hrow.frozen i
          have hr1 := hrow.set i xj.v
          rw [← List.map_set] at hr1
          have c3 := hr1.cell (i := z) (v := .slice (some ⟨xj.b, 0, none⟩) xj.rs.length (xj.rs.length + xj.s.length)) (by rw [List.getElem?_map, List.getElem?_set_ne u7, hhi]; rfl)
          have f3 := hr1.frozen z
          have hr2 := hr1.set z xi.v
          rw [← List.map_set] at hr2
          rw [D2.v] at c3 f3
          have HR2 := hide hr2
          rw [D2.v, D2.v] at HR2
          have HFr := hide hfr
          clear hrv hfr hrow hlo hhi hYi hYj hXn hi hr1 hr2 hhl
          go_wp2
          rw [u3]
          exact ⟨⟨i + 1, hli, vint_succ _, (L'.set i xj).set z xi, (HFr.out.setCell rfl _).setCell rfl _, HR2.out, hst.out⟩, meas_succ hli⟩
        · obtain rfl : i = hf := Nat.le_antisymm hi (Nat.not_lt.1 hli)
          have e : L' = d.ps.reverse := hrv.last (by rw [Hnp.out]; exact Hhf.out.symm)
          obtain ⟨hu, hrd⟩ := hTr.out wr L' e hfr hrow
          have hshut := HG.out.shut
          have KO := hide (other_any bd b m (Vd.tM (tK A) (tS B) m) d0 d.v true wr (HR.out.up hu) (HS.out.up hu) HW.out (HTb.out.up hu) hrd (bd_sz (sz_of (Vd.tM_wrong HW.out))) (.inr ⟨Vd.tM_wrong HW.out, fun _ => Vd.tM_least hshut, by rw [Vd.tM_least hshut], fun hl => Vd.tM_form (fun j n h => tK_lt A j n h) (fun l h1 r h2 => Vd.vr_of HG.out (Vd.least0 hl).1 l h1 r h2)⟩))
          rw [D3.v, Hnp.out] at KO
          have HU := hide hu
          clear hu hrd hfr hrow hrv hshut e hsi'
          go_wp2_with fail
          refine KO.out.mono ?_
          rintro e w2 ⟨rfl, hu⟩
          replace HU := hide (HU.out.trans hu)
          clear hu KO
          go_wp2
          go_ret
          exact ⟨rfl, HU.out⟩
end Go.Proofs.YtcclepohmhdpbabGreatDoor
