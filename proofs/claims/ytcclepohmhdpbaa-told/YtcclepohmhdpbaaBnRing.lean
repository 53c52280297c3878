/- THE PROGRAM's BYTES, READ: rings. -/
import Derived.Test.YtcclepohmhdpbaaBnHead
import Derived.Test.YtcclepohmhdpbaaJpH
namespace Go.Proofs.Ytcclepohmhdpbaa
set_option linter.all false
open Go.RowKit Go.Deep

/-! ### Numbers and coordinates, whatever comes -/
theorem rcut_any (lit : Bool) (l : List UInt8) (o : Nat) (off : Bool) (rb : Nat) (w : World) (hr : RB w rb l o false off) (hl : l.length ≤ 6000) (hlit : lit = ((o : Int) == 1)) :
    Calls Try.prog 39 #[.pointer (some ⟨rb, 0, none⟩), .int .i64 4] w fun e w' => ∃ (v : Nat) (l' : List UInt8) (bad : Bool), e = .returned (.int .u64 v) ∧ RB w' rb l' o bad off ∧ Fr (· = rb) w w' ∧ Bn.cut 4 lit l = (if bad = true then none else some (v, l')) ∧ v < 4294967296 ∧ l'.length ≤ 6000 := by
  by_cases h : l.length < 4
  · exact (rnum_bad 4 l o off false rb w hr (.inr h) hl (by omega)).mono fun e w' ⟨he, h1, u1⟩ => ⟨0, l, true, he, h1, u1, by rw [Bn.cut_none h]; rfl, by omega, hl⟩
  · exact (rnum_ok 4 l o off rb w hr h hl (by omega) lit hlit).mono fun e w' ⟨he, h1, u1⟩ => ⟨_, _, false, he, h1, u1, by rw [Bn.cut_some h]; rfl, Bn.num_lt4 (by rw [List.length_take]; omega), by simp; omega⟩

def CoP (lit : Bool) (l : List UInt8) (bad off : Bool) (x : Int) (l' : List UInt8) (bad' off' : Bool) : Prop :=
  (bad' = true ∧ (bad = true ∨ l.length < 8)) ∨ (bad' = false ∧ bad = false ∧ ¬ l.length < 8 ∧ x = Bn.coord (Bn.num lit (l.take 8)) ∧ l' = l.drop 8 ∧ off' = (off || (Bn.units (Bn.num lit (l.take 8))).isNone))

theorem rcoord_any (lit : Bool) (l : List UInt8) (o : Nat) (bad off : Bool) (rb : Nat) (w : World) (hr : RB w rb l o bad off) (hl : l.length ≤ 6000) (hlit : lit = ((o : Int) == 1)) :
    Calls Try.prog 51 #[.pointer (some ⟨rb, 0, none⟩)] w fun e w' => ∃ (x : Int) (l' : List UInt8) (bad' off' : Bool), e = .returned (.int .i64 x) ∧ RB w' rb l' o bad' off' ∧ Fr (· = rb) w w' ∧ CoP lit l bad off x l' bad' off' ∧ l'.length ≤ 6000 := by
  by_cases h : bad = true ∨ l.length < 8
  · exact (rcoord_bad l o off bad rb w hr h hl).mono fun e w' ⟨he, h1, u1⟩ => ⟨0, l, true, off, he, h1, u1, .inl ⟨rfl, h⟩, hl⟩
  · have hb : bad = false := by cases bad <;> simp_all
    subst hb
    have h8 : ¬ l.length < 8 := fun e => h (.inr e)
    exact (rcoord_ok l o off rb w hr h8 hl lit hlit).mono fun e w' ⟨he, h1, u1⟩ => ⟨_, _, false, _, he, h1, u1, .inr ⟨rfl, rfl, h8, rfl, rfl, rfl⟩, by simp; omega⟩

theorem CoP.two {lit : Bool} {l l1 l2 : List UInt8} {off o1 o2 b1 b2 : Bool} {x y : Int} (h : CoP lit l false off x l1 b1 o1) (k : CoP lit l1 b1 o1 y l2 b2 o2) :
    Bn.point lit l off = (if b2 = true then none else some ((x, y), l2, o2)) ∧ (b2 = false → l2.length + 1 ≤ l.length) := by
  unfold Bn.point
  rcases h with ⟨rfl, h⟩ | ⟨rfl, -, h8, rfl, rfl, rfl⟩
  · rcases h with h | h
    · cases h
    · rcases k with ⟨rfl, -⟩ | ⟨-, k, -⟩
      · rw [if_pos (by omega)]; exact ⟨rfl, fun e => by cases e⟩
      · cases k
  · rcases k with ⟨rfl, k⟩ | ⟨rfl, -, k8, rfl, rfl, rfl⟩
    · rcases k with k | k
      · cases k
      · rw [List.length_drop] at k
        rw [if_pos (by omega)]; exact ⟨rfl, fun e => by cases e⟩
    · rw [List.length_drop] at k8
      rw [if_neg (by omega), List.drop_drop]
      exact ⟨rfl, fun _ => by simp; omega⟩

namespace Bn
/-- A step of a list that is read. -/
theorem go_on {α : Type} {f : List UInt8 → Bool → Res α} {T : Res (List α)} {acc : List α} {n : Nat} {l t : List UInt8} {o o' b : Bool} {a : α} (hT : T = pre acc (many f (n + 1) l o)) (hf : f l o = if b = true then none else some (a, t, o')) : T = if b = true then none else pre (acc ++ [a]) (many f n t o') := by
  cases b
  · rw [hT, many_some acc hf]; rfl
  · rw [hT, many_none acc hf]; rfl
end Bn

set_option maxRecDepth 100000 in
set_option maxHeartbeats 4000000 in
theorem rring_any (lit : Bool) (l : List UInt8) (o : Nat) (off : Bool) (rb : Nat) (w : World) (hr : RB w rb l o false off) (hl : l.length ≤ 6000) (hlit : lit = ((o : Int) == 1)) :
    Calls Try.prog 40 #[.pointer (some ⟨rb, 0, none⟩)] w fun e w' => ∃ (x : L1) (l' : List UInt8) (bad off' : Bool), e = .returned x.v ∧ x.ok w' ∧ RB w' rb l' o bad off' ∧ Fr (· = rb) w w' ∧ Bn.ring lit l off = (if bad = true then none else some (x.r, l', off')) ∧ l'.length ≤ 6000 := by
  have HR := hide hr
  have HL := hide hlit
  have hrl := VRow.lt hr
  clear hr hlit
  go_enter Try.func40, Try.ntmps40
  go_wp2_with fail
  refine (rcut_any lit l o off rb _ HR.out hl HL.out).mono ?_
  rintro e w1 ⟨N, l1, bad1, rfl, h1, u1, hcut, hN, hl1⟩
  have HQ : Hid (Bn.ring lit l off = if bad1 = true then none else Bn.pre [] (Bn.many (Bn.point lit) N l1 off)) := by
    show _ = _
    unfold Bn.ring
    rw [hcut]
    cases bad1
    · show Bn.many (Bn.point lit) N l1 off = _
      rw [Bn.pre_nil]; rfl
    · rfl
  replace h1 := hide h1
  replace u1 := hide u1
  clear hcut
  go_wp2_with fail
  go_loopw [3, 5] (fun v i wr => ∃ (k : Nat) (r : Ring) (l' : List UInt8) (bad off' : Bool) (u : Value), k ≤ N ∧ i = .int .u64 k ∧ u = v ∧ Hid (wr.ownsRow w.heap.size 37 2 u r.length (flat r)) ∧ Hid (RB wr rb l' o bad off') ∧ Hid (Fr (· = rb) w wr) ∧ r.length ≤ 6001 ∧ l'.length ≤ 6000 ∧ Hid (bad = false → r.length + l'.length ≤ 6000) ∧ Hid (Bn.ring lit l off = if bad = true then none else Bn.pre r (Bn.many (Bn.point lit) (N - k) l' off'))) (fun _ i _ => N - (intOf i).toNat)
  case atStart => exact ⟨0, [], l1, bad1, off, _, Nat.zero_le _, rfl, rfl, World.ownsRow_nil _ _ _ _, h1, u1, by simp, hl1, fun _ => by simpa using hl1, HQ⟩
  case round =>
    obtain ⟨k, r, l2, bad2, off2, v, hk, rfl, rfl, HO, HB, HF, hr2, hl2, HS, HT⟩ := hrel
    have c2 := HB.out.c2
    by_cases hlt : k < N
    · cases bad2
      · have hsum := HS.out rfl
        have HT2 : Hid (Bn.ring lit l off = Bn.pre r (Bn.many (Bn.point lit) (N - (k + 1) + 1) l2 off2)) := by
          rw [HT.out, show N - k = N - (k + 1) + 1 by omega]; exact rfl
        clear HS HT
        go_wp2_with fail
        refine (rcoord_any lit l2 o false off2 rb _ HB.out hl2 HL.out).mono ?_
        rintro e w3 ⟨x, l3, b3, o3, rfl, h3, u3, p3, hl3⟩
        replace h3 := hide h3
        replace u3 := hide u3
        replace p3 := hide p3
        go_wp2_with fail
        refine (rcoord_any lit l3 o b3 o3 rb _ h3.out hl3 HL.out).mono ?_
        rintro e w4 ⟨y, l4, b4, o4, rfl, h4, u4, p4, hl4⟩
        have hp := hide (p3.out.two p4)
        have HU : Hid (Fr (· = rb) wr w4) := u3.out.trans u4
        have HO4 : Hid (w4.ownsRow w.heap.size 37 2 v r.length (flat r)) := own_fr HO.out HU.out fun g hg e => own_row_ne HO.out HB.out (by decide) (e ▸ hg)
        replace h4 := hide h4
        replace p4 := hide p4
        have HOA := hide (HO4.out.alloc (.cells #[.int .i64 x, .int .i64 y] 37))
        have hrb : Hid (r.length ≤ 1073741824) := by show _ ≤ _; omega
        have hsz := hide (HF.out.trans HU.out).size
        clear u4 c2
        go_wp2_with (at_builtin; refine wpList_app el_pt rfl (.tmp 26) (.tmp 30) rfl w.heap.size _ _ _ (by rfl) HOA.out w4.heap.size [.int .i64 x, .int .i64 y] (by rfl) rfl (heap_alloc_new w4 _) (by intro u hu; simp at hu; rcases hu with rfl | rfl <;> rfl) hrb.out (by simp; have := hsz.out; omega) ?_; intro g cap w5 hown5 hg5 hat5 hlt5; replace hown5 := hide hown5; replace hg5 := hide hg5; clear hat5 hlt5)
        go_roundw
        case rel =>
          refine ⟨k + 1, r ++ [(x, y)], l4, b4, o4, _, by omega, by go_num, rfl, ?_, ?_, ?_, by simp; omega, hl4, ?_, ?_⟩
          · rw [flat_append, List.length_append]; exact hown5.out
          · exact VRow.grown (VRow.alloc h4.out _) hg5.out (own_row_ne HOA.out (VRow.alloc h4.out _) (by decide))
          · exact ((HF.out.trans HU.out).alloc _).grown hg5.out fun k hk => .inr (own_lt HO.out hk).1
          · intro e
            have := hp.out.2 e
            simp; omega
          · exact Bn.go_on HT2.out hp.out.1
        case measure => simp [intOf]; omega
      · have HT2 : Hid (Bn.ring lit l off = none) := HT.out
        clear HS HT
        go_wp2
        go_ret
        exact ⟨⟨v, r⟩, l2, true, off2, rfl, own_base HO.out (Nat.zero_le _), HB.out, HF.out, HT2.out, hl2⟩
    · have hkN : N - k = 0 := by omega
      rw [hkN] at HT
      go_wp2
      go_ret
      exact ⟨⟨v, r⟩, l2, bad2, off2, rfl, own_base HO.out (Nat.zero_le _), HB.out, HF.out, by rw [HT.out]; cases bad2 <;> simp [Bn.many_zero], hl2⟩
end Go.Proofs.Ytcclepohmhdpbaa
