/- THE WALKS: (*World).spoil. -/
import Derived.Test.YtcclepohmhdpbaaGreatDoorNoted
import Derived.Deep.DeepCutAuto
namespace Go.Proofs.YtcclepohmhdpbaaGreatDoor
set_option linter.all false
open Go.RowKit Go.Deep

set_option maxRecDepth 100000 in
set_option maxHeartbeats 4000000 in
theorem spoil_any (d : D3) (w : World) (Wb : Nat) (ps l out : Value) (k : Int) (hd : OK3 w d) (hnd : d.bl.Nodup) (hWd : Wb ∉ d.bl) (hW : WR w Wb ps l out k)
    (hb : Pl.Bd d.m) (hk0 : 0 ≤ k) (hk1 : k ≤ 1125899906842624) :
    Calls Tryz.prog 31 #[.pointer (some ⟨Wb, 0, none⟩), d.v] w fun e w' => e = .returned (.tuple #[]) ∧ SpoilPost w w' d Wb ps l out k := by
  have hl2 : Hid (∀ x ∈ d.ps, x.rs.length ≤ 1048576) := by
    intro x hx
    have := hb.poly x.pts (List.mem_map_of_mem hx)
    simpa [D2.pts] using this
  have hl4 : Hid (∀ x ∈ d.ps, ∀ y ∈ x.rs, y.r.length ≤ 1048576) := by
    intro x hx y hy
    exact hb.ring x.pts (List.mem_map_of_mem hx) y.r (List.mem_map_of_mem hy)
  have hl3 : d.ps.length ≤ 1048576 := by have := hb.len; simpa [D3.m] using this
  have hst : Hid (SP w w d Wb ps l out k 0) := ⟨Fr.refl _ _, by simpa [off] using hW, hd.row, fun j x _ hx => hd.sub x (List.mem_append_left _ (Pl.mem_of_some hx)), fun j x hj => by omega⟩
  have hdw := hide hd.lt
  have hWw := hide (VRow.lt hW)
  rw [D3.v]
  have hnd' := hide hnd
  have hWd' := hide hWd
  clear hd hnd hWd hW hb
  go_enter Tryz.func31, Tryz.ntmps31
  go_wp2
  go_loopw [4] (fun i wq => ∃ p : Nat, p ≤ d.ps.length ∧ i = .int .i64 p ∧ SP w wq d Wb ps l out k p) (fun i _ => d.ps.length - (intOf i).toNat)
  case atStart => exact ⟨0, Nat.zero_le _, rfl, hst.out⟩
  case round =>
    obtain ⟨p, hp, rfl, hsp⟩ := hrel
    have hsp' := hide hsp
    by_cases hlt : p < d.ps.length
    · obtain ⟨x, hx⟩ := Pl.some_of_lt hlt
      have hx' := hide hx
      have hxl := hl2.out x (Pl.mem_of_some hx)
      have hyl := hide (hl4.out x (Pl.mem_of_some hx))
      have hxc := hsp.row.cell (i := p) (v := .slice (some ⟨x.b, 0, none⟩) x.rs.length (x.rs.length + x.s.length)) (by simp only [List.getElem?_map, List.getElem?_append_left hlt, hx]; rfl)
      have hxc' := hide hxc
      have hxo := hide (hsp.todo p x (Nat.le_refl _) hx)
      generalize hkk : k + (off (d.ps.take p) : Int) = kk at *
      have hkk' := hide hkk
      have hkb : 0 ≤ kk ∧ kk ≤ 2251799813685248 := by
        have := off_le hl2.out p
        omega
      obtain ⟨hkb0, hkb1⟩ := hkb
      have hdb : Hid (d.b ∉ x.rs.map D1.b ∧ d.b ≠ Wb ∧ d.b ≠ x.b ∧ x.b ≠ Wb ∧ x.b ∉ x.rs.map D1.b ∧ Wb ∉ x.rs.map D1.b) := by
        have hxm := Pl.mem_of_some hx
        have hxn := D3.sub_nodup hnd'.out hxm
        have hxb : x.b ∈ x.bl := by simp [D2.bl]
        have h1 := D3.ne_sub hnd'.out hxm
        refine ⟨fun e => h1 (D2.rs_bl e), fun e => hWd'.out (by rw [← e]; simp [D3.bl]), fun e => h1 (e ▸ hxb), fun e => hWd'.out (e ▸ D3.mem_sub hxm hxb), fun e => ?_, fun e => hWd'.out (D3.mem_sub hxm (D2.rs_bl e))⟩
        obtain ⟨y, hy, e⟩ := List.mem_map.1 e
        exact D2.ne_sub hxn hy e.symm
      have hrl0 : Hid (RL wr wr x Wb ps l out kk 0) := ⟨Fr.refl _ _, by simpa [hkk] using hsp.wrow, fun i y hi => by omega, fun i y _ hy => hxo.out.sub y (List.mem_append_left _ (Pl.mem_of_some hy))⟩
      have hxn := hide (D3.sub_nodup hnd'.out (Pl.mem_of_some hx))
      have hWx : Hid (Wb ∉ x.bl) := fun e => hWd'.out (D3.mem_sub (Pl.mem_of_some hx) e)
      clear hsp hx hkk
      go_wp2
      clear hxc
      go_loopw [5] (fun j wq => ∃ q : Nat, q ≤ x.rs.length ∧ j = .int .i64 q ∧ RL wr wq x Wb ps l out kk q) (fun j _ => x.rs.length - (intOf j).toNat)
      case atStart => exact ⟨0, Nat.zero_le _, rfl, hrl0.out⟩
      case round =>
        obtain ⟨q, hq, rfl, hrl⟩ := hrel
        have hrl' := hide hrl
        have ec := hrl.fr.cell hxc'.out (fun h => by rcases h with h | h; exact hdb.out.1 h; exact hdb.out.2.1 h)
        by_cases hlq : q < x.rs.length
        · obtain ⟨y, hy⟩ := Pl.some_of_lt hlq
          have hy' := hide hy
          have hyb := hyl.out y (Pl.mem_of_some hy)
          have hxrow := hrl.fr.row hxo.out.row (fun h => by rcases h with h | h; exact hdb.out.2.2.2.2.1 h; exact hdb.out.2.2.2.1 h)
          have ec2 := hxrow.cell (i := q) (v := .slice (some ⟨y.b, 0, none⟩) y.r.length (y.r.length + y.s.length)) (by simp only [List.getElem?_map, List.getElem?_append_left hlq, hy]; rfl)
          have hxrow' := hide hxrow
          have ecH := hide ec
          have ec2H := hide ec2
          have hyo := hide (hrl.todo q y (Nat.le_refl _) hy)
          have hym := hide (List.mem_map_of_mem (f := D1.b) (Pl.mem_of_some hy))
          have hne1 : Hid (d.b ≠ y.b ∧ x.b ≠ y.b ∧ Wb ≠ y.b) := ⟨fun e => hdb.out.1 (e ▸ hym.out), fun e => hdb.out.2.2.2.2.1 (e ▸ hym.out), fun e => hdb.out.2.2.2.2.2 (e ▸ hym.out)⟩
          have hcm := hide hrl.wrow.c3
          clear hrl hy hxrow
          go_wp2
          clear ec ec2
          go_loopw [6] (fun j wz => ∃ i : Nat, i ≤ y.r.length ∧ j = .int .i64 i ∧ Fr (fun b => b = y.b) wr wz ∧ PRow wz y.b (spt y.r y.s i (kk + q))) (fun j _ => y.r.length - (intOf j).toNat)
          case atStart => exact ⟨0, Nat.zero_le _, rfl, Fr.refl _ _, hyo.out⟩
          case round =>
            obtain ⟨i, hi, rfl, hfz, hpz⟩ := hrel
            have hfz' := hide hfz
            have hpz' := hide hpz
            have fc := hfz.cell ecH.out hne1.out.1
            have fc2 := hfz.cell ec2H.out hne1.out.2.1
            have fcm := hfz.cell hcm.out hne1.out.2.2
            by_cases hli : i < y.r.length
            · obtain ⟨pt, hpt⟩ := spt_some y.r y.s i (kk + q) hli
              obtain ⟨k1, k2⟩ := hpz.cells hpt
              have f1 := VRow.frozen hpz (i * 2)
              have f2 := VRow.frozen hpz (i * 2 + 1)
              clear hfz hpz hpt
              go_wp2
              go_region
              go_wp2
              go_roundw
              case rel =>
                have hs := PRow.set hpz'.out i (-77, kk + q)
                rw [spt_step _ _ _ _ hli] at hs
                exact ⟨i + 1, by omega, by go_num, ((hfz'.out.setCell rfl _).setCell rfl _).drew, hs⟩
              case measure => simp [intOf]; omega
            · have : i = y.r.length := by omega
              subst this
              have hfw := VRow.frozen (hfz.row (hrl'.out.wrow) hne1.out.2.2) 3
              clear hfz hpz
              go_wp2
              go_roundw
              case rel => exact ⟨q + 1, by omega, by go_num, hrl'.out.step hxn.out hWx.out hy'.out hfz'.out hpz'.out⟩
              case measure => simp [intOf]; omega
        · have : q = x.rs.length := by omega
          subst this
          have hxrow := hrl.fr.row hxo.out.row (fun h => by rcases h with h | h; exact hdb.out.2.2.2.2.1 h; exact hdb.out.2.2.2.1 h)
          have hhl0 : Hid (HL wr wr x (kk + x.rs.length) 0 []) := ⟨Fr.refl _ _, hxrow, rfl, by simp⟩
          have ecH := hide ec
          have hcm := hide hrl.wrow.c3
          have hmb0 : 0 ≤ kk + x.rs.length := by omega
          have hmb1 : kk + x.rs.length ≤ 4503599627370496 := by omega
          clear hrl hxrow
          go_wp2
          clear ec
          go_loopw [7] (fun j wz => ∃ (i : Nat) (cs : List Nat), i ≤ x.rs.length ∧ j = .int .i64 i ∧ HL wr wz x (kk + x.rs.length) i cs) (fun j _ => x.rs.length - (intOf j).toNat)
          case atStart => exact ⟨0, [], Nat.zero_le _, rfl, hhl0.out⟩
          case round =>
            obtain ⟨i, cs, hi, rfl, hhl⟩ := hrel
            have hhl' := hide hhl
            have fc := hhl.fr.cell ecH.out hdb.out.2.2.1
            have fcm := hhl.fr.cell hcm.out (Ne.symm hdb.out.2.2.2.1)
            by_cases hli : i < x.rs.length
            · have ea := fun o => ((Up.refl wr).alloc o).cell fc
              have hfx := fun o => (hhl.row.alloc o).frozen i
              have hcx : ∀ o, ∃ v, (wr.alloc o).cell? ⟨x.b, i, none⟩ = some v := fun o => by
                obtain ⟨y, hy⟩ := Pl.some_of_lt hli
                exact ⟨y.v, (hhl.row.alloc o).cell (by rw [List.getElem?_append_right (by rw [List.length_map, hhl.len]; exact Nat.le_refl _), List.length_map, hhl.len, Nat.sub_self, List.map_append, List.getElem?_append_left (by rw [List.length_map, List.length_drop]; omega), List.getElem?_map, List.getElem?_drop, Nat.add_zero, hy]; rfl)⟩
              obtain ⟨v0, hv0⟩ := hcx (.cells #[.int .i64 77, .int .i64 (kk + x.rs.length)] 32)
              clear hhl hcx
              go_wp2
              go_region
              go_wp2
              go_roundw
              case rel =>
                have hs := hhl'.out.step hli
                exact ⟨i + 1, _, by omega, by go_num, ⟨hs.fr.drew, hs.row, hs.len, hs.new⟩⟩
              case measure => simp [intOf]; omega
            · have : i = x.rs.length := by omega
              subst this
              have hfw := VRow.frozen (hhl.fr.row (hrl'.out.wrow) (Ne.symm hdb.out.2.2.2.1)) 3
              clear hhl
              go_wp2
              go_roundw
              case rel =>
                have h1 := hrl'.out
                have h2 := hhl'.out
                rw [← hkk'.out] at h1 h2 ⊢
                exact ⟨p + 1, by omega, by go_num, hsp'.out.step hnd'.out hWd'.out hdw.out hWw.out hx'.out h1 h2⟩
              case measure => simp [intOf]; omega
    · have : p = d.ps.length := by omega
      subst this
      have hwrow := hsp.wrow
      rw [List.take_length] at hwrow
      generalize hkk : k + (off d.ps : Int) = kk at *
      have hkk' := hide hkk
      have hkb : 0 ≤ kk ∧ kk ≤ 2251799813685248 := by
        have := off_le hl2.out d.ps.length
        rw [List.take_length] at this
        omega
      obtain ⟨hkb0, hkb1⟩ := hkb
      have hfl0 : Hid (FL wr wr d kk 0 []) := ⟨Fr.refl _ _, hsp.row, rfl, by simp⟩
      have hcm := hide hwrow.c3
      have hwrow' := hide hwrow
      have hdW : Hid (Wb ≠ d.b) := fun e => hWd'.out (by rw [e]; simp [D3.bl])
      have hdlt : Hid (d.b < wr.heap.size) := hsp.row.lt
      clear hsp hwrow hkk
      go_wp2
      go_loopw [8] (fun j wz => ∃ (i : Nat) (es : List (Nat × Nat)), i ≤ d.ps.length ∧ j = .int .i64 i ∧ FL wr wz d kk i es) (fun j _ => d.ps.length - (intOf j).toNat)
      case atStart => exact ⟨0, [], Nat.zero_le _, rfl, hfl0.out⟩
      case round =>
        obtain ⟨i, es, hi, rfl, hfl⟩ := hrel
        have hfl' := hide hfl
        have fcm := hfl.fr.cell hcm.out hdW.out
        by_cases hli : i < d.ps.length
        · have hfx := fun o o' => ((hfl.row.alloc o).alloc o').frozen i
          have hcx : ∃ v, ∀ o o', ((wr.alloc o).alloc o').cell? ⟨d.b, i, none⟩ = some v := by
            obtain ⟨y, hy⟩ := Pl.some_of_lt hli
            exact ⟨y.v, fun o o' => ((hfl.row.alloc o).alloc o').cell (by rw [List.getElem?_append_right (by rw [List.length_map, hfl.len]; exact Nat.le_refl _), List.length_map, hfl.len, Nat.sub_self, List.map_append, List.getElem?_append_left (by rw [List.length_map, List.length_drop]; omega), List.getElem?_map, List.getElem?_drop, Nat.add_zero, hy]; rfl)⟩
          obtain ⟨v0, hv0⟩ := hcx
          clear hfl
          go_wp2
          go_roundw
          case rel =>
            have hs := hfl'.out.step hli hdlt.out
            exact ⟨i + 1, _, by omega, by go_num, hs⟩
          case measure => simp [intOf]; omega
        · have : i = d.ps.length := by omega
          subst this
          have hfw := VRow.frozen (hfl.fr.row (hwrow'.out) hdW.out) 3
          clear hfl
          go_wp2
          go_end0
          have h2 := hfl'.out
          rw [← hkk'.out] at h2 ⊢
          exact ⟨rfl, hsp'.out.last hnd'.out hWd'.out hdw.out hWw.out h2⟩

end Go.Proofs.YtcclepohmhdpbaaGreatDoor
