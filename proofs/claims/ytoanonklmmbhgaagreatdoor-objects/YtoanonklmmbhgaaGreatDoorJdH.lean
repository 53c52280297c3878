import Derived.Test.YtoanonklmmbhgaaGreatDoorStr
import Derived.Test.YtoanonklmmbhgaaGreatDoorShelf
import Derived.Test.YtoanonklmmbhgaaGreatDoorJdB
import Derived.Test.YtoanonklmmbhgaaGreatDoorKeep
import Derived.Test.YtoanonklmmbhgaaGreatDoorSaid
/- THE PROGRAM's NUMBERS, WRITTEN. -/
namespace Go.Proofs.YtoanonklmmbhgaaGreatDoor
set_option linter.all false
open Go.RowKit Go.Deep

namespace Tx
def dg (k : Nat) : UInt8 := UInt8.ofNat (48 + k)
/-- n digits of the rest r (of ten thousand), no noughts at the end. -/
def places : Nat → Nat → List UInt8
  | 0, _ => []
  | n + 1, r => if r = 0 then [] else dg (r / 1000) :: places n (r % 1000 * 10)
def part (u : Nat) : List UInt8 := if u = 0 then [] else 46 :: places 4 (u * 625)
theorem places_le : ∀ n r, (places n r).length ≤ n
  | 0, _ => by simp [places]
  | n + 1, r => by
    unfold places
    split
    · simp
    · have := places_le n (r % 1000 * 10)
      simp; omega
end Tx

theorem digit_any (k : Nat) (hk : k < 10) (w : World) :
    Calls Tryz.prog 219 #[.int .i64 (k : Nat)] w fun e w' => e = .returned (.string (bs [Tx.dg k])) ∧ w' = w :=
  (Tryz.strconv_Itoa_small k (by omega) w).mono fun e w' ⟨h1, h2⟩ => ⟨by rw [h1, Lib.decDigits_one hk]; rfl, h2⟩

set_option maxHeartbeats 1000000 in
theorem partText_any (u : Nat) (w : World) (hu : u < 16) :
    Calls Tryz.prog 220 #[.int .i64 (u : Nat)] w fun e w' => e = .returned (.string (bs (Tx.part u))) ∧ w' = w := by
  by_cases h : u = 0
  · subst h
    go_enter Tryz.func220, Tryz.ntmps220
    go_wp2
    go_ret
    exact ⟨rfl, rfl⟩
  · have h' : ((u : Int) == 0) = false := beq_eq_false_iff_ne.2 (by omega)
    have HC := hide (show Tx.part u = [46] ++ Tx.places 4 (u * 625) by simp [Tx.part, h])
    go_enter Tryz.func220, Tryz.ntmps220
    go_wp2
    go_loop [3, 4, 5] (fun s r i => ∃ (n q : Nat) (t : List UInt8), n ≤ 4 ∧ i = .int .i64 n ∧ r = .int .i64 q ∧ s = .string (bs t) ∧ q < 10000 ∧ t.length ≤ 1 + n ∧ Hid (Tx.part u = t ++ Tx.places (4 - n) q)) (fun _ _ i => 4 - (intOf i).toNat)
    case atStart => exact ⟨0, u * 625, [46], by omega, rfl, by simp, rfl, by omega, by simp, HC⟩
    case round =>
      obtain ⟨n, q, t, hn, rfl, rfl, rfl, hq, ht, HP⟩ := hrel
      by_cases h4 : n < 4
      · by_cases hq0 : q = 0
        · have HS : Hid (Tx.part u = t) := by
            have := HP.out
            obtain ⟨j, hj⟩ : ∃ j, 4 - n = j + 1 := ⟨3 - n, by omega⟩
            rw [hj, Tx.places, if_pos hq0, List.append_nil] at this
            exact this
          clear HP
          subst hq0
          go_wp2_with (go_at_call 219; fail)
          go_ret
          exact ⟨by rw [HS.out]; rfl, rfl⟩
        · have HS : Hid (Tx.part u = t ++ [Tx.dg (q / 1000)] ++ Tx.places (4 - (n + 1)) (q % 1000 * 10)) := by
            have := HP.out
            obtain ⟨j, hj⟩ : ∃ j, 4 - n = j + 1 := ⟨3 - n, by omega⟩
            rw [hj, Tx.places, if_neg hq0] at this
            rw [show 4 - (n + 1) = j by omega, List.append_assoc]
            exact this
          clear HP
          have hq0' : ((q : Int) == 0) = false := beq_eq_false_iff_ne.2 (by omega)
          have s1 := bs_size t
          have s2 := bs_size [Tx.dg (q / 1000)]
          have s3 := bs_append t [Tx.dg (q / 1000)]
          go_wp2_with (go_at_call 219; refine (digit_any (q / 1000) (by omega) _).mono ?_; rintro e w' ⟨rfl, rfl⟩)
          go_round
          case rel => exact ⟨n + 1, q % 1000 * 10, t ++ [Tx.dg (q / 1000)], by omega, by go_num, by go_num, rfl, by omega, by simp; omega, HS⟩
          case measure => simp [intOf]; omega
      · obtain rfl : n = 4 := by omega
        have HS : Hid (Tx.part u = t) := by
          have := HP.out
          rw [Nat.sub_self, Tx.places, List.append_nil] at this
          exact this
        clear HP
        go_wp2_with (go_at_call 219; fail)
        go_ret
        exact ⟨by rw [HS.out]; rfl, rfl⟩
theorem up_grow (w : World) (os : Array Obj) : Up w (Go.Sort.grow w os) :=
  ⟨rfl, rfl, rfl, by simp [Go.Sort.grow], fun b hb => by simp [Go.Sort.grow, Array.getElem?_append_left hb]⟩

/-- The table that Itoa reads. -/
def Tab (w : World) : Prop := Lib.TabIs Tryz.prog w "internal/strconv.uint64pow10" .u64 Lib.pow10Tab

theorem itoa_any (k : Nat) (hk : k ≤ 4096) (w : World) (ht : Tab w) :
    Calls Tryz.prog 219 #[.int .i64 (k : Nat)] w fun e w' => e = .returned (.string (bs (Lib.decDigits k))) ∧ Up w w' :=
  (Tryz.strconv_Itoa k (by omega) (by omega) w ht).mono fun e w' ⟨h1, n, os, h2⟩ => ⟨by rw [h1, Lib.itoa_nonneg]; rfl, by rw [h2]; exact ((Up.refl w).drewN n).trans (up_grow _ os)⟩

namespace Tx
def txt (x : Int) : List UInt8 := (if x < 0 then [45] else []) ++ Lib.decDigits (x.natAbs / 16) ++ part (x.natAbs % 16)
theorem part_le (u : Nat) : (part u).length ≤ 5 := by
  unfold part
  split
  · simp
  · have := places_le 4 (u * 625); simp; omega
end Tx

theorem nDigits_le (u : Nat) : Lib.nDigits u ≤ u + 1 := by
  induction u using Nat.strongRecOn with
  | _ u ih =>
    by_cases h : u < 10
    · rw [Lib.nDigits_small h]; omega
    · rw [Lib.nDigits_big h]
      have := ih (u / 10) (by omega)
      omega

set_option maxHeartbeats 1000000 in
theorem Text_any (x : Int) (w : World) (h1 : -32768 ≤ x) (h2 : x ≤ 32768) (ht : Tab w) :
    Calls Tryz.prog 209 #[.int .i64 x] w fun e w' => e = .returned (.string (bs (Tx.txt x))) ∧ Up w w' := by
  have HT := hide ht
  clear ht
  obtain ⟨a, ha⟩ : ∃ a : Nat, a = x.natAbs := ⟨_, rfl⟩
  obtain ⟨D, hD⟩ : ∃ D, D = Lib.decDigits (a / 16) := ⟨_, rfl⟩
  obtain ⟨F, hF⟩ : ∃ F, F = Tx.part (a % 16) := ⟨_, rfl⟩
  have hDl : D.length ≤ 4097 := by rw [hD, Lib.decDigits_length]; have := nDigits_le (a / 16); omega
  have hFl : F.length ≤ 5 := by rw [hF]; exact Tx.part_le _
  have s1 := bs_size D
  have s2 := bs_size F
  have HD := hide hD
  have HF := hide hF
  by_cases hx : x < 0
  · have HX := hide (show Tx.txt x = [45] ++ D ++ F by rw [hD, hF, ha]; simp [Tx.txt, hx])
    obtain rfl : x = -(a : Int) := by omega
    clear hD hF ha
    have s3 : (ByteArray.mk #[45]) ++ bs D = bs (45 :: D) := bs_append [45] D
    have s4 : bs (45 :: D) ++ bs F = bs (45 :: (D ++ F)) := bs_append (45 :: D) F
    have s5 : (bs (45 :: D)).size = D.length + 1 := bs_size (45 :: D)
    go_enter Tryz.func209, Tryz.ntmps209
    go_wp2_with (first
      | (go_at_call 219; refine (itoa_any (a / 16) (by omega) _ HT.out).mono ?_; rintro e w1 ⟨rfl, hu⟩; rw [← HD.out]; replace hu := hide hu)
      | (go_at_call 220; refine (partText_any (a % 16) _ (by omega)).mono ?_; rintro e w2 ⟨rfl, rfl⟩; rw [← HF.out]))
    go_ret
    rw [HX.out]
    exact ⟨rfl, hu.out⟩
  · have HX := hide (show Tx.txt x = D ++ F by rw [hD, hF, ha]; simp [Tx.txt, hx])
    obtain rfl : x = (a : Int) := by omega
    clear hD hF ha
    have s3 : (ByteArray.mk #[]) ++ bs D = bs D := bs_append [] D
    have s3' : ByteArray.empty ++ bs D = bs D := bs_append [] D
    have s4 : bs D ++ bs F = bs (D ++ F) := bs_append D F
    go_enter Tryz.func209, Tryz.ntmps209
    go_wp2_with (first
      | (go_at_call 219; refine (itoa_any (a / 16) (by omega) _ HT.out).mono ?_; rintro e w1 ⟨rfl, hu⟩; rw [← HD.out]; replace hu := hide hu)
      | (go_at_call 220; refine (partText_any (a % 16) _ (by omega)).mono ?_; rintro e w2 ⟨rfl, rfl⟩; rw [← HF.out]))
    go_ret
    rw [HX.out]
    exact ⟨rfl, hu.out⟩
end Go.Proofs.YtoanonklmmbhgaaGreatDoor

/- THE DOCUMENT's JSON: strings. -/
namespace Go.Proofs.YtoanonklmmbhgaaGreatDoor
set_option linter.all false
open Go.RowKit Go.Deep

def DChPost (l : List UInt8) (w : World) (e : Ending) (w' : World) : Prop :=
  ∃ (v : Value) (c : List Int) (t : List UInt8) (ok : Bool), e = .returned (.tuple #[v, .string (bs t), .bool ok]) ∧ w'.ownsRow w.heap.size 3 1 v c.length (Js.ints c) ∧ Up w w' ∧ Js.str l = (if ok = true then some (c, t) else none) ∧ t.length ≤ l.length ∧ c.length ≤ 6000

structure DC (w wr : World) (u : Value) (c : List Int) : Prop where
  own : wr.ownsRow w.heap.size 3 1 u c.length (Js.ints c)
  up : Up w wr
theorem DC.step {w wr w4 w5 : World} {v : Value} {c : List Int} {x : Int} {g cap : Nat} (h : DC w wr v c) (u : Up wr w4) (hown : w5.ownsRow w.heap.size 3 1 (.slice (some ⟨g, 0, none⟩) (c.length + 1) cap) (c.length + 1) (Js.ints c ++ [.int .i64 x])) (hg : (w4.alloc (.cells #[.int .i64 x] 3)).grownBy w5 v.ownBlock) :
    DC w w5 (.slice (some ⟨g, 0, none⟩) (c.length + 1) cap) (c ++ [x]) :=
  ⟨by rw [Js.ints_snoc, List.length_append]; exact hown, up_grown ((h.up.trans u).alloc _) hg fun k hk => (own_lt h.own hk).1⟩
theorem Js.chr_plain {l : List UInt8} {x : Int} (hx : Tx.at_ l 0 = x) (h : x ≠ 92) : Js.chr l = if 32 ≤ x ∧ x ≤ 126 then some (x, l.drop 1) else none := by
  unfold Js.chr
  rw [hx, if_neg h]
theorem Js.chr_esc {l : List UInt8} (h : Tx.at_ l 0 = 92) : Js.chr l = Js.esc (l.drop 1) := by
  unfold Js.chr
  rw [if_pos h]
theorem Js.chr_nil : Js.chr [] = none := rfl

set_option maxRecDepth 100000 in
set_option maxHeartbeats 8000000 in
theorem dChars_any (l : List UInt8) (w : World) (hl : l.length ≤ 6000) :
    Calls Tryz.prog 97 #[.string (bs l)] w (DChPost l w) := by
  by_cases h34 : Tx.at_ l 0 = 34
  · obtain ⟨e0, e1, e2, -, e4, -⟩ := bs_tells l
    have hpos : 0 < l.length := Tx.lt_of_at (by omega)
    have hne : ¬ l = [] := fun e => by rw [e] at hpos; simp at hpos
    have hemp : l.isEmpty = false := by cases l <;> simp_all
    have HST : Hid (Js.str l = Js.pre0 [] (Js.body (l.length + 1) (l.drop 1))) := by
      show _ = _
      unfold Js.str
      rw [if_pos h34, Js.pre0_nil]
    have HS0 : Hid (DC w w (.slice none 0 0) []) := ⟨World.ownsRow_nil _ _ _ _, Up.refl _⟩
    obtain ⟨t1, ht1⟩ : ∃ t, t = l.drop 1 := ⟨_, rfl⟩
    have hx1 : (bs l).extract 1 l.length = bs t1 := by rw [ht1]; exact e2 1
    have hlt1 : t1.length + 1 = l.length := by rw [ht1, List.length_drop]; omega
    rw [← ht1] at HST
    clear ht1 e2
    go_enter Tryz.func97, Tryz.ntmps97
    go_wp2
    go_loopw [0, 5] (fun sv ov wr => ∃ (k : Nat) (c : List Int) (t : List UInt8) (u : Value), sv = .string (bs t) ∧ u = ov ∧ Hid (DC w wr u c) ∧ t.length ≤ k ∧ c.length + t.length ≤ 6000 ∧ t.length ≤ l.length ∧ Hid (Js.str l = Js.pre0 c (Js.body (k + 1) t))) (fun sv _ _ => lenOf sv)
    case atStart => exact ⟨l.length, [], t1, _, rfl, rfl, HS0, by omega, by simp; omega, by omega, HST⟩
    case round =>
      obtain ⟨k, c, t, u, rfl, rfl, HI, hk, hct, htl, HT⟩ := hrel
      obtain ⟨ua, un, uc, rfl⟩ : ∃ a n c, u = .slice a n c := own_shape HI.out.own
      obtain rfl : un = c.length := by obtain ⟨a, c, e⟩ := own_len HI.out.own; cases e; rfl
      clear e0 e1 e4 hx1 h34 hne hemp
      obtain ⟨e0, e1, e2, -, e4, -⟩ := bs_tells t
      by_cases h0 : t = []
      · subst h0
        have HE : Hid (Js.str l = none) := by
          show _ = _
          rw [HT.out]; rfl
        clear HT e2
        go_wp2
        go_ret3
        exact ⟨_, [], [], false, rfl, World.ownsRow_nil _ _ _ _, HI.out.up, by rw [HE.out]; rfl, by simp, by simp⟩
      · have hpos2 : 0 < t.length := List.length_pos_iff.2 h0
        have hemp : t.isEmpty = false := by cases t <;> simp_all
        obtain ⟨x, hx⟩ : ∃ x, x = Tx.at_ t 0 := ⟨_, rfl⟩
        have hx1 : Tx.at_ t 0 = x := hx.symm
        have hx0 : 0 ≤ x ∧ x ≤ 255 := by rw [hx]; exact Tx.at_nn hpos2
        have HX := hide hx1
        obtain ⟨t2, ht2⟩ : ∃ s, s = t.drop 1 := ⟨_, rfl⟩
        have hd1 : (bs t).extract 1 t.length = bs t2 := by rw [ht2]; exact e2 1
        have hlt2 : t2.length + 1 = t.length := by rw [ht2, List.length_drop]; omega
        have HT2 := hide ht2
        clear hx ht2
        by_cases hq : x = 34
        · have HE : Hid (Js.str l = some (c, t2)) := by
            have hp : Tx.pre [34] t = true := (Js.pre1 34 t).2 (by rw [HX.out, hq]; rfl)
            have := Js.body_end HT.out hp
            rw [Tx.aft_t hp] at this
            show _ = _
            rw [this, HT2.out]; rfl
          subst hq
          clear HT e2
          go_wp2
          go_quiet (fail)
          go_wp2
          go_ret3
          exact ⟨_, c, t2, true, rfl, own_up HI.out.own ((Up.refl _).drewN _), HI.out.up.drewN _, by rw [HE.out]; rfl, by omega, by omega⟩
        · have bq : (x != 34) = true := bne_iff_ne.2 hq
          have HP : Hid (Tx.pre [34] t = false) := Js.pre1f (by rw [HX.out]; exact hq)
          clear hq
          by_cases h92 : x = 92
          · have HC : Hid (Js.chr t = Js.esc t2) := by
              show _ = _
              rw [Js.chr_esc (by rw [HX.out]; exact h92), HT2.out]
            have HDE := hide (fun w => dEscape_any t2 w (by omega))
            subst h92
            clear e2
            go_wp2_with fail
            refine (HDE.out _).mono ?_
            rintro e w4 ⟨v, n, rfl, u4, hn, p4⟩
            by_cases hn0 : n = 0
            · subst hn0
              have HE : Hid (Js.str l = none) := by
                have := Js.body_go (b := true) (v := 0) (l' := []) HT.out HP.out (by rw [HC.out, p4]; rfl)
                exact this
              replace u4 := hide u4
              clear p4
              go_wp2
              go_ret3
              exact ⟨_, [], t, false, rfl, World.ownsRow_nil _ _ _ _, HI.out.up.trans u4.out, by rw [HE.out]; rfl, by omega, by simp⟩
            · have hn1 : ((n : Int) == 0) = false := beq_eq_false_iff_ne.2 (by omega)
              obtain ⟨t3, ht3⟩ : ∃ s, s = t2.drop n := ⟨_, rfl⟩
              have HG : Hid (Js.str l = Js.pre0 (c ++ [v]) (Js.body k t3)) := by
                have := Js.body_go (b := false) (v := v) (l' := t3) HT.out HP.out (by rw [HC.out, p4, if_neg hn0, ht3]; rfl)
                exact this
              have hl3 : t3.length + n + 1 = t.length := by rw [ht3, List.length_drop]; omega
              have hd3 : (bs t).extract (1 + n) t.length = bs t3 := by
                rw [(bs_tells t).drop, ht3, HT2.out, List.drop_drop]
              have HO : Hid (w4.ownsRow w.heap.size 3 1 (.slice ua c.length uc) c.length (Js.ints c)) := own_up HI.out.own u4
              have HOA := hide (HO.out.alloc (.cells #[.int .i64 v] 3))
              have hrb : Hid (c.length ≤ 1073741824) := by show _ ≤ _; omega
              have hsz4 := hide (HI.out.up.trans u4).size
              replace u4 := hide u4
              clear p4 ht3 hn0
              go_wp2_with (at_builtin; refine wpList_app el_ints rfl (.tmp 54) (.tmp 56) rfl w.heap.size _ _ _ (by rfl) HOA.out w4.heap.size [.int .i64 v] (by rfl) rfl (heap_alloc_new w4 _) (by intro u hu; simp at hu; subst hu; rfl) hrb.out (by simp; have := hsz4.out; omega) ?_; intro g cap w5 hown5 hg5 hat5 hlt5; have hq5 := hide (HI.out.step u4.out hown5 hg5); clear hat5 hlt5 hown5 hg5)
              go_roundw
              case rel =>
                refine ⟨k - 1, c ++ [v], t3, _, by simp [hd3], rfl, hq5, by omega, by simp; omega, by omega, ?_⟩
                show _ = _
                rw [show k - 1 + 1 = k by omega]
                exact HG.out
              case measure => simp [lenOf, hd3, bs_size]; omega
          · have HC := hide (Js.chr_plain HX.out h92)
            have b92 : (x != 92) = true := bne_iff_ne.2 h92
            clear h92
            by_cases h32 : x < 32
            · have HE : Hid (Js.str l = none) := Js.body_go (b := true) (v := 0) (l' := []) HT.out HP.out (by rw [HC.out, if_neg (by omega)]; rfl)
              clear e2
              go_wp2
              go_ret3
              exact ⟨_, [], t, false, rfl, World.ownsRow_nil _ _ _ _, HI.out.up, by rw [HE.out]; rfl, by omega, by simp⟩
            · by_cases h126 : 126 < x
              · have HE : Hid (Js.str l = none) := Js.body_go (b := true) (v := 0) (l' := []) HT.out HP.out (by rw [HC.out, if_neg (by omega)]; rfl)
                clear e2
                go_wp2
                go_ret3
                exact ⟨_, [], t, false, rfl, World.ownsRow_nil _ _ _ _, HI.out.up, by rw [HE.out]; rfl, by omega, by simp⟩
              · have HG : Hid (Js.str l = Js.pre0 (c ++ [x]) (Js.body k t2)) := by
                  have := Js.body_go (b := false) (v := x) (l' := t2) HT.out HP.out (by rw [HC.out, if_pos (by omega), HT2.out]; rfl)
                  exact this
                have hwr : wrap64 x = x := by unfold wrap64; omega
                have HOA := hide (HI.out.own.alloc (.cells #[.int .i64 x] 3))
                have hrb : Hid (c.length ≤ 1073741824) := by show _ ≤ _; omega
                have hsz4 := hide HI.out.up.size
                clear e2
                go_wp2_with (at_builtin; refine wpList_app el_ints rfl (.tmp 37) (.tmp 41) rfl w.heap.size _ _ _ (by rfl) HOA.out wr.heap.size [.int .i64 x] (by rfl) rfl (heap_alloc_new wr _) (by intro u hu; simp at hu; subst hu; rfl) hrb.out (by simp; have := hsz4.out; omega) ?_; intro g cap w5 hown5 hg5 hat5 hlt5; have hq5 := hide (HI.out.step (Up.refl _) hown5 hg5); clear hat5 hlt5 hown5 hg5)
                go_roundw
                case rel =>
                  refine ⟨k - 1, c ++ [x], t2, _, by simp [hd1], rfl, hq5, by omega, by simp; omega, by omega, ?_⟩
                  show _ = _
                  rw [show k - 1 + 1 = k by omega]
                  exact HG.out
                case measure => simp [lenOf, hd1, bs_size]; omega
  · have HE : Hid (Js.str l = none) := by
      show _ = _
      unfold Js.str
      rw [if_neg h34]
    obtain ⟨e0, e1, -, -, e4, -⟩ := bs_tells l
    cases l with
    | nil =>
      go_enter Tryz.func97, Tryz.ntmps97
      go_wp2
      go_ret3
      exact ⟨_, [], [], false, rfl, World.ownsRow_nil _ _ _ _, Up.refl _, by rw [HE.out]; rfl, by simp, by simp⟩
    | cons a r =>
      have hb : (Tx.at_ (a :: r) 0 != 34) = true := bne_iff_ne.2 h34
      have hpos : 0 < (a :: r).length := by simp
      obtain ⟨t, ht⟩ : ∃ t, a :: r = t := ⟨_, rfl⟩
      have hne : ¬ t = [] := by rw [← ht]; simp
      have hemp : t.isEmpty = false := by rw [← ht]; rfl
      rw [ht] at hb hpos e0 e1 e4 hl HE ⊢
      clear ht h34
      go_enter Tryz.func97, Tryz.ntmps97
      go_wp2
      go_ret3
      exact ⟨_, [], t, false, rfl, World.ownsRow_nil _ _ _ _, Up.refl _, by rw [HE.out]; rfl, by simp, by simp⟩
end Go.Proofs.YtoanonklmmbhgaaGreatDoor

/- THE DOCUMENT's JSON: values, as they lie. -/
namespace Go.Proofs.YtoanonklmmbhgaaGreatDoor
set_option linter.all false
open Go.RowKit Go.Deep

namespace Js
/-- A name as it lies. -/
structure NC where
  v : Value
  c : List Int
structure NC.ok (K : Nat → Prop) (w : World) (y : NC) : Prop where
  own : w.ownsRow 0 3 1 y.v y.c.length (ints y.c)
  blk : ∀ g, y.v.ownBlock = some g → K g
  len : y.c.length ≤ 6000
def vcells (kind : Int) (s : List UInt8) (cv nv lv : Value) (d : Int) : List Value := [.int .i64 kind, .string (bs s), cv, nv, lv, .int .i64 d]
def nilS : Value := .slice none 0 0
def ptr (b : Nat) : Value := .pointer (some ⟨b, 0, none⟩)
def names : V → List (List Int)
  | .cons n _ r => n :: names r
  | _ => []
/-- A list's or an object's rows. -/
structure Rows (K : Nat → Prop) (w : World) (nv lv : Value) (ys : List NC) (qs : List Nat) : Prop where
  ownN : w.ownsRow 0 24 1 nv ys.length (ys.map NC.v)
  ownL : w.ownsRow 0 92 1 lv qs.length (qs.map ptr)
  blkN : ∀ g, nv.ownBlock = some g → K g
  blkL : ∀ g, lv.ownBlock = some g → K g
  oks : ∀ y ∈ ys, y.ok K w
  len : qs.length ≤ 6000
  lenN : ys.length ≤ 6000
def isVal : V → Bool
  | .nil => false
  | .cons _ _ _ => false
  | _ => true
def Ok (K : Nat → Prop) (w : World) : V → List Nat → Prop
  | .word, ps => ∃ b, ps = [b] ∧ K b ∧ VRow w b 98 (vcells 0 [] nilS nilS nilS 0)
  | .num s, ps => ∃ b, ps = [b] ∧ K b ∧ VRow w b 98 (vcells 1 s nilS nilS nilS 0) ∧ Du.Shape s ∧ s.length ≤ 6000
  | .txt c, ps => ∃ b cv, ps = [b] ∧ K b ∧ VRow w b 98 (vcells 2 [] cv nilS nilS 0) ∧ NC.ok K w ⟨cv, c⟩
  | .nil, ps => ps = []
  | .cons _ v r, ps => ∃ p qs, ps = p :: qs ∧ Ok K w v [p] ∧ Ok K w r qs ∧ isVal v = true ∧ ∀ q ∈ qs, p < q
  | .lst m, ps => ∃ b lv qs, ps = [b] ∧ K b ∧ VRow w b 98 (vcells 3 [] nilS nilS lv ((m.deep : Int) + 1)) ∧ Rows K w nilS lv [] qs ∧ Ok K w m qs ∧ ∃ acc, m = ofM acc
  | .obj m, ps => ∃ b nv lv ys qs, ps = [b] ∧ K b ∧ VRow w b 98 (vcells 4 [] nilS nv lv ((m.deep : Int) + 1)) ∧ Rows K w nv lv ys qs ∧ ys.map NC.c = names m ∧ Ok K w m qs ∧ ∃ acc, m = ofM acc

theorem NC.ok.of {K K' : Nat → Prop} {w w' : World} {y : NC} (h : y.ok K w) (he : ∀ b, K b → w'.heap[b]? = w.heap[b]?) (hk : ∀ b, K b → K' b) : y.ok K' w' :=
  ⟨own_of_block h.own fun g hg => he g (h.blk g hg), fun g hg => hk g (h.blk g hg), h.len⟩
theorem Rows.of {K K' : Nat → Prop} {w w' : World} {nv lv : Value} {ys : List NC} {qs : List Nat} (h : Rows K w nv lv ys qs) (he : ∀ b, K b → w'.heap[b]? = w.heap[b]?) (hk : ∀ b, K b → K' b) : Rows K' w' nv lv ys qs :=
  ⟨own_of_block h.ownN fun g hg => he g (h.blkN g hg), own_of_block h.ownL fun g hg => he g (h.blkL g hg), fun g hg => hk g (h.blkN g hg), fun g hg => hk g (h.blkL g hg), fun y hy => (h.oks y hy).of he hk, h.len, h.lenN⟩
theorem Ok.of {K K' : Nat → Prop} {w w' : World} (he : ∀ b, K b → w'.heap[b]? = w.heap[b]?) (hk : ∀ b, K b → K' b) : ∀ {v : V} {ps : List Nat}, Ok K w v ps → Ok K' w' v ps
  | .word, ps, ⟨b, h1, h2, h3⟩ => ⟨b, h1, hk b h2, h3.of_block (he b h2)⟩
  | .num s, ps, ⟨b, h1, h2, h3, h4⟩ => ⟨b, h1, hk b h2, h3.of_block (he b h2), h4⟩
  | .txt c, ps, ⟨b, cv, h1, h2, h3, h4⟩ => ⟨b, cv, h1, hk b h2, h3.of_block (he b h2), h4.of he hk⟩
  | .nil, ps, h => h
  | .cons n v r, ps, ⟨p, qs, h1, h2, h3, h4⟩ => ⟨p, qs, h1, Ok.of he hk h2, Ok.of he hk h3, h4⟩
  | .lst m, ps, ⟨b, lv, qs, h1, h2, h3, h4, h5, h6⟩ => ⟨b, lv, qs, h1, hk b h2, h3.of_block (he b h2), h4.of he hk, Ok.of he hk h5, h6⟩
  | .obj m, ps, ⟨b, nv, lv, ys, qs, h1, h2, h3, h4, h5, h6, h7⟩ => ⟨b, nv, lv, ys, qs, h1, hk b h2, h3.of_block (he b h2), h4.of he hk, h5, Ok.of he hk h6, h7⟩
theorem Ok.up {K : Nat → Prop} {w w' : World} {v : V} {ps : List Nat} (h : Ok K w v ps) (u : Up w w') (hk : ∀ b, K b → b < w.heap.size) : Ok K w' v ps := Ok.of (fun b hb => u.block b (hk b hb)) (fun _ h => h) h

theorem names_ofM : ∀ r : List (List Int × V), names (ofM r) = r.map Prod.fst
  | [] => rfl
  | x :: r => by simp [ofM, names, names_ofM r]
theorem Ok.snoc {K : Nat → Prop} {w : World} {n : List Int} {v : V} {p : Nat} (hv : Ok K w v [p]) (hi : isVal v = true) : ∀ {acc : List (List Int × V)} {ps : List Nat}, Ok K w (ofM acc) ps → (∀ q ∈ ps, q < p) → Ok K w (ofM (acc ++ [(n, v)])) (ps ++ [p])
  | [], ps, h, _ => by
    have h' : ps = [] := h
    subst h'
    exact ⟨p, [], rfl, hv, rfl, hi, by simp⟩
  | x :: acc, ps, ⟨q, qs, h1, h2, h3, h5, h4⟩, hq => by
    subst h1
    refine ⟨q, qs ++ [p], rfl, h2, Ok.snoc hv hi h3 (fun r hr => hq r (by simp [hr])), h5, fun r hr => ?_⟩
    rcases List.mem_append.1 hr with hr | hr
    · exact h4 r hr
    · simp at hr
      rw [hr]
      exact hq q (by simp)
theorem Ok.kids {K : Nat → Prop} {w : World} : ∀ {acc : List (List Int × V)} {ps : List Nat}, Ok K w (ofM acc) ps → ps.length = acc.length ∧ (∀ (i : Nat) (p : Nat), ps[i]? = some p → ∃ x : List Int × V, acc[i]? = some x ∧ Ok K w x.2 [p] ∧ isVal x.2 = true)
  | [], ps, h => by
    have h' : ps = [] := h
    subst h'
    exact ⟨rfl, fun i p hp => by simp at hp⟩
  | x :: acc, ps, ⟨q, qs, h1, h2, h3, h5, h4⟩ => by
    subst h1
    obtain ⟨e1, e2⟩ := Ok.kids h3
    refine ⟨by simp [e1], fun i p hp => ?_⟩
    cases i with
    | zero => simp at hp; subst hp; exact ⟨x, rfl, h2, h5⟩
    | succ i => simpa using e2 i p (by simpa using hp)
theorem Ok.sorted {K : Nat → Prop} {w : World} : ∀ {acc : List (List Int × V)} {ps : List Nat}, Ok K w (ofM acc) ps → ps.Pairwise (· < ·)
  | [], ps, h => by
    have h' : ps = [] := h
    subst h'
    exact .nil
  | x :: acc, ps, ⟨q, qs, h1, h2, h3, h5, h4⟩ => by
    subst h1
    exact .cons h4 (Ok.sorted h3)
theorem Ok.one {K : Nat → Prop} {w : World} {v : V} {p : Nat} (h : Ok K w v [p]) (hi : isVal v = true) : K p ∧ ∃ kd s cv nv lv, VRow w p 98 (vcells kd s cv nv lv v.deep) := by
  cases v with
  | word => obtain ⟨b, h1, h2, h3⟩ := h; cases h1; exact ⟨h2, _, _, _, _, _, h3⟩
  | num s => obtain ⟨b, h1, h2, h3, h4⟩ := h; cases h1; exact ⟨h2, _, _, _, _, _, h3⟩
  | txt c => obtain ⟨b, cv, h1, h2, h3, h4⟩ := h; cases h1; exact ⟨h2, _, _, _, _, _, h3⟩
  | nil => cases hi
  | cons n a r => cases hi
  | lst m => obtain ⟨b, lv, qs, h1, h2, h3, h4⟩ := h; cases h1; exact ⟨h2, _, _, _, _, _, h3⟩
  | obj m => obtain ⟨b, nv, lv, ys, qs, h1, h2, h3, h4⟩ := h; cases h1; exact ⟨h2, _, _, _, _, _, h3⟩
theorem deep_snoc : ∀ (acc : List (List Int × V)) (x : List Int × V), (ofM (acc ++ [x])).deep = Nat.max (ofM acc).deep x.2.deep
  | [], x => by simp [ofM, V.deep]
  | y :: acc, x => by
    simp only [List.cons_append, ofM, V.deep, deep_snoc acc x]
    exact (Nat.max_assoc _ _ _).symm
end Js

theorem el_vals : Elem Tryz.prog 96 92 (.pointer none) 1 8 := ⟨by kernel_rfl, by kernel_rfl, rfl, by omega, by omega⟩
theorem el_names : Elem Tryz.prog 95 24 (.slice none 0 0) 1 24 := ⟨by kernel_rfl, by kernel_rfl, rfl, by omega, by omega⟩

/-- What is new since w, but for what is still being built. -/
def KK (w wr : World) (bv : Nat) (nv lv : Value) (b : Nat) : Prop := w.heap.size ≤ b ∧ b < wr.heap.size ∧ b ≠ bv ∧ nv.ownBlock ≠ some b ∧ lv.ownBlock ≠ some b

/-- A list or an object that is being read. -/
structure MI (w wr : World) (bv : Nat) (kind : Int) (nv lv : Value) (dp : Nat) (acc : List (List Int × Js.V)) (ys : List Js.NC) (ps : List Nat) : Prop where
  row : VRow wr bv 98 (Js.vcells kind [] Js.nilS nv lv dp)
  bv0 : w.heap.size ≤ bv
  up : Up w wr
  ownN : wr.ownsRow w.heap.size 24 1 nv ys.length (ys.map Js.NC.v)
  ownL : wr.ownsRow w.heap.size 92 1 lv ps.length (ps.map Js.ptr)
  oks : ∀ y ∈ ys, y.ok (KK w wr bv nv lv) wr
  kids : Js.Ok (KK w wr bv nv lv) wr (Js.ofM acc) ps
  pls : ∀ p ∈ ps, p < wr.heap.size

theorem MI.ups {w wr w' : World} {bv : Nat} {kind : Int} {nv lv : Value} {dp : Nat} {acc : List (List Int × Js.V)} {ys : List Js.NC} {ps : List Nat} (h : MI w wr bv kind nv lv dp acc ys ps) (u : Up wr w') : MI w w' bv kind nv lv dp acc ys ps := by
  have hs := u.size
  have he : ∀ b, KK w wr bv nv lv b → w'.heap[b]? = wr.heap[b]? := fun b hb => u.block b hb.2.1
  have hk : ∀ b, KK w wr bv nv lv b → KK w w' bv nv lv b := fun b hb => ⟨hb.1, by have := hb.2.1; omega, hb.2.2⟩
  exact ⟨h.row.of_block (u.block _ h.row.lt), h.bv0, h.up.trans u, own_up h.ownN u, own_up h.ownL u, fun y hy => (h.oks y hy).of he hk, Js.Ok.of he hk h.kids, fun p hp => by have := h.pls p hp; omega⟩

theorem MI.name {w wr w2 w5 : World} {bv : Nat} {kind : Int} {nv lv : Value} {dp : Nat} {acc : List (List Int × Js.V)} {ys : List Js.NC} {ps : List Nat} {cv : Value} {c : List Int} {g cap : Nat} (h : MI w wr bv kind nv lv dp acc ys ps) (u : Up wr w2) (hy : w2.ownsRow wr.heap.size 3 1 cv c.length (Js.ints c)) (hc : c.length ≤ 6000)
    (hown : w5.ownsRow w.heap.size 24 1 (.slice (some ⟨g, 0, none⟩) (ys.length + 1) cap) (ys.length + 1) (ys.map Js.NC.v ++ [cv])) (hg : (w2.alloc (.cells #[cv] 24)).grownBy w5 nv.ownBlock) (hat : nv.ownBlock = some g ∨ g = (w2.alloc (.cells #[cv] 24)).heap.size) (hlt : g < w5.heap.size) :
    MI w (w5.setCell ⟨bv, 3, none⟩ (.slice (some ⟨g, 0, none⟩) (ys.length + 1) cap)) bv kind (.slice (some ⟨g, 0, none⟩) (ys.length + 1) cap) lv dp acc (ys ++ [⟨cv, c⟩]) ps := by
  have h2 := h.ups u
  have hA := h2.ups ((Up.refl w2).alloc (.cells #[cv] 24))
  obtain ⟨wA, hwA⟩ : ∃ W, W = w2.alloc (.cells #[cv] 24) := ⟨_, rfl⟩
  rw [← hwA] at hg hat hA
  have hu2 : Up wr wA := by rw [hwA]; exact u.alloc _
  have hwAs : w2.heap.size < wA.heap.size := by rw [hwA]; simp
  have hyA : wA.ownsRow wr.heap.size 3 1 cv c.length (Js.ints c) := by rw [hwA]; exact hy.alloc _
  have hyl : ∀ g', cv.ownBlock = some g' → wr.heap.size ≤ g' ∧ g' < w2.heap.size := fun g' e => own_lt hy e
  have hus := u.size
  have hbl := h.row.lt
  have hfr : Fr (fun b => nv.ownBlock = some b) wA w5 := Fr.of_grown hg
  have h5s := hfr.size
  have hNb : nv.ownBlock ≠ some bv := own_row_ne hA.ownN hA.row (by decide)
  have hLb : lv.ownBlock ≠ some bv := own_row_ne hA.ownL hA.row (by decide)
  have hNlt : ∀ b, nv.ownBlock = some b → b < wr.heap.size := fun b e => (own_lt h.ownN e).2
  have hLlt : ∀ b, lv.ownBlock = some b → b < wr.heap.size := fun b e => (own_lt h.ownL e).2
  have hLN : ∀ b, lv.ownBlock = some b → ¬ nv.ownBlock = some b := fun b e => own_ne hA.ownL hA.ownN (by decide) e
  have row5 := hfr.row hA.row hNb
  have hgb : g ≠ bv := fun e => own_row_ne hown row5 (by decide) (by rw [e]; rfl)
  have gold : ∀ b, b < wA.heap.size → nv.ownBlock ≠ some b → b ≠ g := fun b hb hn e => by
    rcases hat with h1 | h1
    · exact hn (by rw [e]; exact h1)
    · omega
  have heap6 : ∀ b, b < wA.heap.size → b ≠ bv → nv.ownBlock ≠ some b → (w5.setCell ⟨bv, 3, none⟩ (.slice (some ⟨g, 0, none⟩) (ys.length + 1) cap)).heap[b]? = wA.heap[b]? := fun b hb hb1 hb2 => (Below.heap_setCell _ _ _ _ hb1).trans (hfr.block b hb hb2)
  have hs6 : (w5.setCell ⟨bv, 3, none⟩ (.slice (some ⟨g, 0, none⟩) (ys.length + 1) cap)).heap.size = w5.heap.size := by simp
  have he : ∀ b, KK w wA bv nv lv b → (w5.setCell ⟨bv, 3, none⟩ (.slice (some ⟨g, 0, none⟩) (ys.length + 1) cap)).heap[b]? = wA.heap[b]? := fun b hb => heap6 b hb.2.1 hb.2.2.1 hb.2.2.2.1
  have hk : ∀ b, KK w wA bv nv lv b → KK w (w5.setCell ⟨bv, 3, none⟩ (.slice (some ⟨g, 0, none⟩) (ys.length + 1) cap)) bv (.slice (some ⟨g, 0, none⟩) (ys.length + 1) cap) lv b := fun b hb => ⟨hb.1, by rw [hs6]; have := hb.2.1; omega, hb.2.2.1, fun e => gold b hb.2.1 hb.2.2.2.1 (Option.some.inj e).symm, hb.2.2.2.2⟩
  refine ⟨row5.set 3 _, h.bv0, (up_grown (hA.up) hg fun k hk => (own_lt h.ownN hk).1).setCell (p := ⟨bv, 3, none⟩) h.bv0 _, ?_, ?_, ?_, Js.Ok.of he hk hA.kids, fun p hp => by rw [hs6]; have := hA.pls p hp; omega⟩
  · rw [List.map_append, List.length_append]
    exact own_set (a := ⟨bv, 3, none⟩) hown (fun e => hgb (Option.some.inj e)) _
  · exact own_set (own_fr hA.ownL hfr hLN) (fun e => hLb e) _
  · intro y hy'
    rcases List.mem_append.1 hy' with hy' | hy'
    · exact (hA.oks y hy').of he hk
    · simp at hy'
      subst hy'
      have hb : ∀ g', cv.ownBlock = some g' → w.heap.size ≤ g' ∧ g' < wA.heap.size ∧ g' ≠ bv ∧ nv.ownBlock ≠ some g' ∧ lv.ownBlock ≠ some g' := fun g' e => by
        have h1 := hyl g' e
        have h2 := h.up.size
        exact ⟨by omega, by omega, by omega, fun e2 => by have := hNlt _ e2; omega, fun e2 => by have := hLlt _ e2; omega⟩
      exact ⟨own_base (own_of_block hyA fun g' e => he g' (hb g' e)) (Nat.zero_le _), fun g' e => hk g' (hb g' e), hc⟩

theorem MI.kid {w wr w2 w5 : World} {bv : Nat} {kind : Int} {nv lv : Value} {dp : Nat} {acc : List (List Int × Js.V)} {ys : List Js.NC} {ps : List Nat} {n : List Int} {v : Js.V} {p : Nat} {g cap : Nat} (h : MI w wr bv kind nv lv dp acc ys ps) (u : Up wr w2) (hv : Js.Ok (fun b => wr.heap.size ≤ b ∧ b < w2.heap.size) w2 v [p]) (hp : wr.heap.size ≤ p ∧ p < w2.heap.size) (hi : Js.isVal v = true)
    (hown : w5.ownsRow w.heap.size 92 1 (.slice (some ⟨g, 0, none⟩) (ps.length + 1) cap) (ps.length + 1) (ps.map Js.ptr ++ [Js.ptr p])) (hg : (w2.alloc (.cells #[Js.ptr p] 92)).grownBy w5 lv.ownBlock) (hat : lv.ownBlock = some g ∨ g = (w2.alloc (.cells #[Js.ptr p] 92)).heap.size) (hlt : g < w5.heap.size) :
    MI w (w5.setCell ⟨bv, 4, none⟩ (.slice (some ⟨g, 0, none⟩) (ps.length + 1) cap)) bv kind nv (.slice (some ⟨g, 0, none⟩) (ps.length + 1) cap) dp (acc ++ [(n, v)]) ys (ps ++ [p]) := by
  have h2 := h.ups u
  have hA := h2.ups ((Up.refl w2).alloc (.cells #[Js.ptr p] 92))
  obtain ⟨wA, hwA⟩ : ∃ W, W = w2.alloc (.cells #[Js.ptr p] 92) := ⟨_, rfl⟩
  rw [← hwA] at hg hat hA
  have hwAs : w2.heap.size < wA.heap.size := by rw [hwA]; simp
  have hvA : Js.Ok (fun b => wr.heap.size ≤ b ∧ b < w2.heap.size) wA v [p] := by rw [hwA]; exact hv.up ((Up.refl w2).alloc _) fun b hb => hb.2
  have hus := u.size
  have hbl := h.row.lt
  have hfr : Fr (fun b => lv.ownBlock = some b) wA w5 := Fr.of_grown hg
  have h5s := hfr.size
  have hNb : nv.ownBlock ≠ some bv := own_row_ne hA.ownN hA.row (by decide)
  have hLb : lv.ownBlock ≠ some bv := own_row_ne hA.ownL hA.row (by decide)
  have hNlt : ∀ b, nv.ownBlock = some b → b < wr.heap.size := fun b e => (own_lt h.ownN e).2
  have hLlt : ∀ b, lv.ownBlock = some b → b < wr.heap.size := fun b e => (own_lt h.ownL e).2
  have hNL : ∀ b, nv.ownBlock = some b → ¬ lv.ownBlock = some b := fun b e => own_ne hA.ownN hA.ownL (by decide) e
  have row5 := hfr.row hA.row hLb
  have hgb : g ≠ bv := fun e => own_row_ne hown row5 (by decide) (by rw [e]; rfl)
  have gold : ∀ b, b < wA.heap.size → lv.ownBlock ≠ some b → b ≠ g := fun b hb hn e => by
    rcases hat with h1 | h1
    · exact hn (by rw [e]; exact h1)
    · omega
  have heap6 : ∀ b, b < wA.heap.size → b ≠ bv → lv.ownBlock ≠ some b → (w5.setCell ⟨bv, 4, none⟩ (.slice (some ⟨g, 0, none⟩) (ps.length + 1) cap)).heap[b]? = wA.heap[b]? := fun b hb hb1 hb2 => (Below.heap_setCell _ _ _ _ hb1).trans (hfr.block b hb hb2)
  have hs6 : (w5.setCell ⟨bv, 4, none⟩ (.slice (some ⟨g, 0, none⟩) (ps.length + 1) cap)).heap.size = w5.heap.size := by simp
  have he : ∀ b, KK w wA bv nv lv b → (w5.setCell ⟨bv, 4, none⟩ (.slice (some ⟨g, 0, none⟩) (ps.length + 1) cap)).heap[b]? = wA.heap[b]? := fun b hb => heap6 b hb.2.1 hb.2.2.1 hb.2.2.2.2
  have hk : ∀ b, KK w wA bv nv lv b → KK w (w5.setCell ⟨bv, 4, none⟩ (.slice (some ⟨g, 0, none⟩) (ps.length + 1) cap)) bv nv (.slice (some ⟨g, 0, none⟩) (ps.length + 1) cap) b := fun b hb => ⟨hb.1, by rw [hs6]; have := hb.2.1; omega, hb.2.2.1, hb.2.2.2.1, fun e => gold b hb.2.1 hb.2.2.2.2 (Option.some.inj e).symm⟩
  have hin : ∀ b, (wr.heap.size ≤ b ∧ b < w2.heap.size) → KK w wA bv nv lv b := fun b hb => by
    have h2 := h.up.size
    exact ⟨by omega, by omega, by omega, fun e2 => by have := hNlt _ e2; omega, fun e2 => by have := hLlt _ e2; omega⟩
  have hv6 := Js.Ok.of (fun b hb => he b (hin b hb)) (fun b hb => hk b (hin b hb)) hvA
  refine ⟨row5.set 4 _, h.bv0, (up_grown (hA.up) hg fun k hk => (own_lt h.ownL hk).1).setCell (p := ⟨bv, 4, none⟩) h.bv0 _, ?_, ?_, fun y hy => (hA.oks y hy).of he hk, Js.Ok.snoc hv6 hi (Js.Ok.of he hk hA.kids) (fun q hq => by have := h.pls q hq; omega), fun q hq => ?_⟩
  · exact own_set (own_fr hA.ownN hfr hNL) (fun e => hNb e) _
  · rw [List.map_append, List.length_append]
    exact own_set (a := ⟨bv, 4, none⟩) hown (fun e => hgb (Option.some.inj e)) _
  · rw [hs6]
    rcases List.mem_append.1 hq with hq | hq
    · have := hA.pls q hq; omega
    · simp at hq; omega

theorem MI.deep {w wr : World} {bv : Nat} {kind : Int} {nv lv : Value} {dp : Nat} {acc : List (List Int × Js.V)} {ys : List Js.NC} {ps : List Nat} (h : MI w wr bv kind nv lv dp acc ys ps) (d : Nat) : MI w (wr.setCell ⟨bv, 5, none⟩ (.int .i64 d)) bv kind nv lv d acc ys ps := by
  have hNb : nv.ownBlock ≠ some bv := own_row_ne h.ownN h.row (by decide)
  have hLb : lv.ownBlock ≠ some bv := own_row_ne h.ownL h.row (by decide)
  have hs6 : (wr.setCell ⟨bv, 5, none⟩ (.int .i64 d)).heap.size = wr.heap.size := by simp
  have he : ∀ b, KK w wr bv nv lv b → (wr.setCell ⟨bv, 5, none⟩ (.int .i64 d)).heap[b]? = wr.heap[b]? := fun b hb => Below.heap_setCell _ _ _ _ hb.2.2.1
  have hk : ∀ b, KK w wr bv nv lv b → KK w (wr.setCell ⟨bv, 5, none⟩ (.int .i64 d)) bv nv lv b := fun b hb => ⟨hb.1, by rw [hs6]; exact hb.2.1, hb.2.2⟩
  exact ⟨h.row.set 5 _, h.bv0, h.up.setCell (p := ⟨bv, 5, none⟩) h.bv0 _, own_set h.ownN (fun e => hNb e) _, own_set h.ownL (fun e => hLb e) _, fun y hy => (h.oks y hy).of he hk, Js.Ok.of he hk h.kids, fun p hp => by rw [hs6]; exact h.pls p hp⟩

/-- All of it, done. -/
theorem MI.lst {w wr : World} {bv : Nat} {lv : Value} {acc : List (List Int × Js.V)} {ps : List Nat} (h : MI w wr bv 3 Js.nilS lv ((Js.ofM acc).deep + 1) acc [] ps) (hl : ps.length ≤ 6000) : Js.Ok (fun b => w.heap.size ≤ b ∧ b < wr.heap.size) wr (.lst (Js.ofM acc)) [bv] := by
  have hk : ∀ b, KK w wr bv Js.nilS lv b → w.heap.size ≤ b ∧ b < wr.heap.size := fun b hb => ⟨hb.1, hb.2.1⟩
  exact ⟨bv, lv, ps, rfl, ⟨h.bv0, h.row.lt⟩, h.row, ⟨World.ownsRow_nil _ _ _ _, own_base h.ownL (Nat.zero_le _), (fun g (hg : (Value.slice none 0 0).ownBlock = some g) => nomatch hg), fun g hg => own_lt h.ownL hg, (fun y hy => nomatch hy), hl, Nat.zero_le _⟩, Js.Ok.of (fun _ _ => rfl) hk h.kids, acc, rfl⟩
theorem MI.obj {w wr : World} {bv : Nat} {nv lv : Value} {acc : List (List Int × Js.V)} {ys : List Js.NC} {ps : List Nat} (h : MI w wr bv 4 nv lv ((Js.ofM acc).deep + 1) acc ys ps) (hl : ps.length ≤ 6000) (hn : ys.map Js.NC.c = acc.map Prod.fst) : Js.Ok (fun b => w.heap.size ≤ b ∧ b < wr.heap.size) wr (.obj (Js.ofM acc)) [bv] := by
  have hk : ∀ b, KK w wr bv nv lv b → w.heap.size ≤ b ∧ b < wr.heap.size := fun b hb => ⟨hb.1, hb.2.1⟩
  have hl2 : ys.length ≤ 6000 := by
    have h1 := congrArg List.length hn
    simp at h1
    rw [h1, ← (Js.Ok.kids h.kids).1]
    exact hl
  exact ⟨bv, nv, lv, ys, ps, rfl, ⟨h.bv0, h.row.lt⟩, h.row, ⟨own_base h.ownN (Nat.zero_le _), own_base h.ownL (Nat.zero_le _), fun g hg => own_lt h.ownN hg, fun g hg => own_lt h.ownL hg, fun y hy => (h.oks y hy).of (fun _ _ => rfl) hk, hl, hl2⟩, by rw [Js.names_ofM]; exact hn, Js.Ok.of (fun _ _ => rfl) hk h.kids, acc, rfl⟩
theorem MI.start (w : World) (kind : Int) : MI w (w.alloc (.cells #[.int .i64 kind, .string (bs []), Js.nilS, Js.nilS, Js.nilS, .int .i64 1] 98)) w.heap.size kind Js.nilS Js.nilS 1 [] [] [] :=
  ⟨VRow.new w (Js.vcells kind [] Js.nilS Js.nilS Js.nilS 1) _, Nat.le_refl _, (Up.refl w).alloc _, World.ownsRow_nil _ _ _ _, World.ownsRow_nil _ _ _ _, by simp, rfl, by simp⟩
end Go.Proofs.YtoanonklmmbhgaaGreatDoor

/- THE DOCUMENT's JSON: lists. -/
namespace Go.Proofs.YtoanonklmmbhgaaGreatDoor
set_option linter.all false
open Go.RowKit Go.Deep

def DRdPost (P : Option (Js.V × List UInt8)) (l : List UInt8) (w : World) (e : Ending) (w' : World) : Prop :=
  ∃ (pv : Value) (t : List UInt8), e = .returned (.tuple #[pv, .string (bs t)]) ∧ Up w w' ∧ t.length ≤ l.length ∧ ((P = none ∧ pv = .pointer none) ∨ (∃ v b, P = some (v, t) ∧ pv = .pointer (some ⟨b, 0, none⟩) ∧ (w.heap.size ≤ b ∧ b < w'.heap.size) ∧ Js.Ok (fun b => w.heap.size ≤ b ∧ b < w'.heap.size) w' v [b]))
def DReadAt (n : Nat) : Prop := ∀ (l : List UInt8), l.length ≤ n → l.length ≤ 6000 → ∀ w, Calls Tryz.prog 57 #[.string (bs l)] w (DRdPost (Js.rd n l) l w)

theorem Js.rd_val {d : Nat} {l : List UInt8} {v : Js.V} {t : List UInt8} (h : Js.rd d l = some (v, t)) : Js.isVal v = true := by
  rw [Js.rd_eq] at h
  have hl : ∀ (b e : UInt8) (nm : Bool) (g : Js.V → Js.V), (∀ m, Js.isVal (g m) = true) → Js.lstD b e nm g d l = some (v, t) → Js.isVal v = true := by
    intro b e nm g hg h
    cases d with
    | zero => cases h
    | succ d =>
      simp only [Js.lstD, Option.map_eq_some_iff] at h
      obtain ⟨x, -, h⟩ := h
      cases h
      exact hg _
  split at h
  · exact hl _ _ _ _ (fun m => rfl) h
  · split at h
    · exact hl _ _ _ _ (fun m => rfl) h
    · unfold Js.leaf at h
      split at h
      · cases h; rfl
      · split at h
        · cases h; rfl
        · split at h
          · cases h; rfl
          · split at h
            · simp only [Option.map_eq_some_iff] at h
              obtain ⟨x, -, h⟩ := h
              cases h; rfl
            · split at h
              · cases h
              · cases h; rfl
theorem Js.rd_deep {d : Nat} {l : List UInt8} {v : Js.V} {t : List UInt8} (h : Js.rd d l = some (v, t)) : v.deep ≤ d := by
  have := Js.rd_keep d d (Nat.le_refl _) l
  rw [h] at this
  simp only [Option.bind_some] at this
  split at this
  · rename_i h2; simpa using h2
  · cases this

set_option maxRecDepth 100000 in
set_option maxHeartbeats 16000000 in
theorem many_list (n : Nat) (hn : n ≤ 6001) (IH : DReadAt n) (l : List UInt8) (h91 : Tx.at_ l 0 = 91) (hbare : Tx.bare l = l) (hln : l.length ≤ n + 1) (hl : l.length ≤ 6000) (w : World) :
    Calls Tryz.prog 98 #[.string (bs l), .int .i64 3, .int .u8 93] w (DRdPost (Js.lstD 91 93 false .lst (n + 1) l) l w) := by
  replace IH := hide IH
  obtain ⟨e0, -, e2, -, -, -⟩ := bs_tells l
  have hpos : 0 < l.length := Tx.lt_of_at (by omega)
  obtain ⟨l1, hl1⟩ : ∃ t, t = l.drop 1 := ⟨_, rfl⟩
  have hd1 : (bs l).extract 1 l.length = bs l1 := by rw [hl1]; exact e2 1
  have hlen1 : l1.length + 1 = l.length := by rw [hl1, List.length_drop]; omega
  have HB := hide (fun w => bare_any l1 w)
  obtain ⟨s, hs⟩ : ∃ s, s = Tx.bare l1 := ⟨_, rfl⟩
  rw [← hs] at HB
  have hsl : s.length ≤ l1.length := by rw [hs]; exact Tx.bare_le l1
  have HL0 : Hid (Js.list0 91 93 (Js.mem false (Js.rd n)) l = if Tx.pre [93] s = true then some ([], Tx.aft [93] s) else Js.items0 93 (Js.mem false (Js.rd n)) (l.length + 1) s) := by
    show _ = _
    have hp : Tx.pre [91] (Tx.bare l) = true := (Js.pre1 91 _).2 (by rw [hbare]; exact h91)
    unfold Js.list0
    rw [if_pos hp, Tx.aft_t hp, hbare, hs, hl1]
    rfl
  have HP : Hid (Js.lstD 91 93 false .lst (n + 1) l = (Js.list0 91 93 (Js.mem false (Js.rd n)) l).map fun x => (Js.V.lst (Js.ofM x.1), x.2)) := rfl
  obtain ⟨wA, hwA⟩ : ∃ W, W = w.alloc (.cells #[.int .i64 3, .string ⟨#[]⟩, .slice none 0 0, .slice none 0 0, .slice none 0 0, .int .i64 1] 98) := ⟨_, rfl⟩
  have HM : Hid (MI w wA w.heap.size 3 Js.nilS Js.nilS 1 [] [] []) := by rw [hwA]; exact MI.start w 3
  have HWA := hide hwA
  clear e2 hl1 hs hwA h91 hbare
  by_cases hE : Tx.pre [93] s = true
  · have HR : Hid (Js.lstD 91 93 false .lst (n + 1) l = some (.lst .nil, s.drop 1)) := by
      show _ = _
      rw [HP.out, HL0.out, if_pos hE, Tx.aft_t hE]; rfl
    have hat : Tx.at_ s 0 = 93 := (Js.pre1 93 s).1 hE
    have hps : 0 < s.length := Tx.lt_of_at (by omega)
    have hne : ¬ s = [] := fun e => by rw [e] at hps; simp at hps
    have hemp : s.isEmpty = false := by cases s <;> simp_all
    obtain ⟨e0', e1', e2', -, e4', -⟩ := bs_tells s
    obtain ⟨s1, hs1⟩ : ∃ t, t = s.drop 1 := ⟨_, rfl⟩
    have hds : (bs s).extract 1 s.length = bs s1 := by rw [hs1]; exact e2' 1
    have hls1 : s1.length ≤ s.length := by rw [hs1]; simp
    rw [← hs1] at HR
    clear hE HL0 HP e2' hs1
    go_enter Tryz.func98, Tryz.ntmps98
    go_wp2_with (go_at_call 51; refine (HB.out _).mono ?_; rintro e w1 ⟨rfl, hw⟩; replace hw := hw.symm; subst hw)
    go_quiet (fail)
    go_wp2
    go_ret2
    have HM2 := (HM.out.ups ((Up.refl _).drewN nq))
    rw [HWA.out] at HM2
    exact ⟨_, s1, rfl, HM2.up, by omega, .inr ⟨_, w.heap.size, HR.out, rfl, ⟨Nat.le_refl _, HM2.row.lt⟩, MI.lst (acc := []) (ps := []) HM2 (Nat.zero_le _)⟩⟩
  · have HT0 : Hid (Js.list0 91 93 (Js.mem false (Js.rd n)) l = Js.pre0 [] (Js.items0 93 (Js.mem false (Js.rd n)) (l.length + 1) s)) := by
      show _ = _
      rw [HL0.out, if_neg hE, Js.pre0_nil]
    obtain ⟨T, hT⟩ : ∃ T, T = Js.list0 91 93 (Js.mem false (Js.rd n)) l := ⟨_, rfl⟩
    rw [← hT] at HT0 HP
    have hat : ∀ x, Tx.at_ s 0 = x → x ≠ 93 := fun x hx e => hE ((Js.pre1 93 s).2 (by rw [hx, e]; rfl))
    obtain ⟨e0', e1', -, -, e4', -⟩ := bs_tells s
    clear hE HL0 hT
    by_cases hs0 : s = []
    · subst hs0
      have HE : Hid (T = none) := by
        have h1 : Js.rd n [] = none := by
          cases h : Js.rd n [] with
          | none => rfl
          | some x =>
            have := Js.rd_lt n [] x.1 x.2 h
            simp at this
        show _ = _
        rw [HT0.out]
        simp [Js.items0, Js.mem, h1, Js.pre0]
      clear hat
      go_enter Tryz.func98, Tryz.ntmps98
      go_wp2_with (go_at_call 51; refine (HB.out _).mono ?_; rintro e w1 ⟨rfl, hw⟩; replace hw := hw.symm; subst hw)
      rw [← HWA.out]
      go_loopw [0] (fun sv wr => sv = .string (bs []) ∧ wr = wA) (fun _ _ => 0)
      case atStart => exact ⟨rfl, rfl⟩
      case round =>
        obtain ⟨rfl, rfl⟩ := hrel
        go_wp2_with fail
        refine (IH.out [] (by simp) (by simp) _).mono ?_
        rintro e w4 ⟨pv, t4, rfl, u4, ht4, hcase⟩
        rcases hcase with ⟨hnone, rfl⟩ | ⟨v, b, hsome, rfl, hb, hok⟩
        · have HU : Hid (Up w w4) := HM.out.up.trans u4
          clear hnone u4
          go_wp2
          go_ret2
          exact ⟨_, [], rfl, HU.out, by simp, .inl ⟨by rw [HP.out, HE.out]; rfl, rfl⟩⟩
        · have := Js.rd_lt n [] _ _ hsome
          simp at this
    have hps : 0 < s.length := List.length_pos_iff.2 hs0
    have hemp : s.isEmpty = false := by cases s <;> simp_all
    have hb93 : (Tx.at_ s 0 == 93) = false := beq_eq_false_iff_ne.2 (hat _ rfl)
    clear hat
    go_enter Tryz.func98, Tryz.ntmps98
    go_wp2_with (go_at_call 51; refine (HB.out _).mono ?_; rintro e w1 ⟨rfl, hw⟩; replace hw := hw.symm; subst hw)
    rw [← HWA.out]
    go_loopw [0] (fun sv wr => ∃ (k dp : Nat) (acc : List (List Int × Js.V)) (t : List UInt8) (lv : Value) (ps : List Nat), sv = .string (bs t) ∧ Hid (MI w wr w.heap.size 3 Js.nilS lv dp acc [] ps) ∧ t.length ≤ k ∧ t.length + 1 ≤ l.length ∧ acc.length + t.length ≤ 6000 ∧ dp ≤ 6002 ∧ Hid (dp = (Js.ofM acc).deep + 1) ∧ Hid (T = Js.pre0 acc (Js.items0 93 (Js.mem false (Js.rd n)) (k + 1) t))) (fun sv _ => lenOf sv)
    case atStart => exact ⟨l.length, 1, [], _, Js.nilS, [], rfl, HM, by omega, by omega, by simp; omega, by omega, rfl, HT0⟩
    case round =>
      obtain ⟨wo, hw⟩ : ∃ x, x = wr := ⟨_, rfl⟩
      subst hw
      obtain ⟨k, dp, acc, t, lv, ps, rfl, HI, hk, htl, hat6, hdp, HDP, HT⟩ := hrel
      obtain ⟨la, ln, lc, rfl⟩ : ∃ a n c, lv = .slice a n c := own_shape HI.out.ownL
      obtain rfl : ln = ps.length := by obtain ⟨a, c, e⟩ := own_len HI.out.ownL; cases e; rfl
      have HPL : Hid (ps.length = acc.length) := (Js.Ok.kids HI.out.kids).1
      have hpl6 : ps.length ≤ 6000 := by rw [HPL.out]; omega
      go_wp2_with fail
      refine (IH.out t (by omega) (by omega) _).mono ?_
      rintro e w4 ⟨pv, t4, rfl, u4, ht4, hcase⟩
      rcases hcase with ⟨hnone, rfl⟩ | ⟨v, b, hsome, rfl, hb, hok⟩
      · have HE : Hid (T = none) := by
          have := (Js.go_on0 (b := true) (a := (([] : List Int), Js.V.nil)) (t := []) (bad := false) HT.out (by simp [Js.mem, hnone])).2 rfl
          simpa [Hid] using this
        have HU : Hid (Up w w4) := HI.out.up.trans u4
        clear hnone u4 HT
        go_wp2
        go_ret2
        exact ⟨_, t, rfl, HU.out, by omega, .inl ⟨by rw [HP.out, HE.out]; rfl, rfl⟩⟩
      · obtain ⟨hg1, hg2⟩ := Js.go_on0 (b := false) (a := (([] : List Int), v)) (t := t4) (bad := false) HT.out (by simp [Js.mem, hsome])
        have hlt4 : t4.length + 1 ≤ t.length := Js.rd_lt _ _ _ _ hsome
        obtain ⟨kd, sx, xcv, xnv, xlv, hrowx⟩ := (hok.one (Js.rd_val hsome)).2
        obtain ⟨dv, hdv⟩ : ∃ d, d = v.deep := ⟨_, rfl⟩
        have hdv6 : dv ≤ 6001 := by rw [hdv]; have := Js.rd_deep hsome; omega
        rw [← hdv] at hrowx
        have HDV := hide hdv
        have HIV := hide (Js.rd_val hsome)
        have HB4 := hide (bare_any t4)
        obtain ⟨s4, hs4⟩ : ∃ x, x = Tx.bare t4 := ⟨_, rfl⟩
        have hls4 : s4.length ≤ t4.length := by rw [hs4]; exact Tx.bare_le t4
        rw [← hs4] at hg1 hg2
        unfold Hid at HB4
        rw [← hs4] at HB4
        replace HB4 := hide HB4
        replace hg1 := hide hg1
        replace hg2 := hide hg2
        have h4 := HI.out.ups u4
        have c4 := h4.row.cell (i := 4) rfl
        have HOA := hide (h4.ownL.alloc (.cells #[.pointer (some ⟨b, 0, none⟩)] 92))
        have hrb : Hid (ps.length ≤ 1073741824) := by show _ ≤ _; omega
        have hsz4 := hide h4.up.size
        have HOK := hide hok
        have HBB := hide hb
        have HRX := hide hrowx
        have H4 := hide h4
        have HU4 := hide u4
        have hbne : b ≠ w.heap.size := by
          have h1 := HI.out.row.lt
          omega
        have hbne2 : w.heap.size ≠ b := fun e => hbne e.symm
        have HLB : Hid ((Value.slice la ps.length lc).ownBlock ≠ some b) := fun e => by
          have h1 := (own_lt HI.out.ownL e).2
          omega
        clear hsome hdv hs4 HT hok h4 u4 hrowx
        go_wp2_with (at_builtin; refine wpList_app el_vals rfl (.tmp 82) (.tmp 84) rfl w.heap.size _ _ _ (by rfl) HOA.out w4.heap.size [.pointer (some ⟨b, 0, none⟩)] (by rfl) rfl (heap_alloc_new w4 _) (by intro u hu; simp at hu; subst hu; rfl) hrb.out (by simp; have := hsz4.out; omega) ?_; intro g cap w5 hown5 hg5 hat5 hlt5; have H6 := hide (MI.kid (n := []) HI.out HU4.out HOK.out HBB.out HIV.out hown5 hg5 hat5 hlt5); have row5 := (Fr.of_grown hg5).row (H4.out.ups ((Up.refl w4).alloc (.cells #[.pointer (some ⟨b, 0, none⟩)] 92))).row (own_row_ne (H4.out.ups ((Up.refl w4).alloc (.cells #[.pointer (some ⟨b, 0, none⟩)] 92))).ownL (H4.out.ups ((Up.refl w4).alloc (.cells #[.pointer (some ⟨b, 0, none⟩)] 92))).row (by decide)); have rc4 := row5.cell (i := 4) rfl; have rf4 := row5.frozen 4; have rc5 := row5.cell (i := 5) rfl; have rf5 := row5.frozen 5; have rx5 := ((HRX.out.alloc (.cells #[.pointer (some ⟨b, 0, none⟩)] 92)).grown hg5 HLB.out).cell (i := 5) rfl; clear hown5 hg5 hat5 hlt5 row5)
        have HDS : Hid ((Js.ofM (acc ++ [(([] : List Int), v)])).deep + 1 = if dp < dv + 1 then dv + 1 else dp) := by
          show _ = _
          rw [Js.deep_snoc, HDP.out, HDV.out]
          have h1 := Nat.le_max_left (Js.ofM acc).deep v.deep
          have h2 := Nat.le_max_right (Js.ofM acc).deep v.deep
          have h3 : Nat.max (Js.ofM acc).deep v.deep = (Js.ofM acc).deep ∨ Nat.max (Js.ofM acc).deep v.deep = v.deep := by
            rcases Nat.le_total (Js.ofM acc).deep v.deep with h | h
            · exact .inr (Nat.max_eq_right h)
            · exact .inl (Nat.max_eq_left h)
          split <;> (rcases h3 with h3 | h3 <;> simp only [h3] at * <;> omega)
        obtain ⟨e40, e41, e42, -, e44, -⟩ := bs_tells s4
        by_cases hgt : dp < dv + 1
        · rw [if_pos hgt] at HDS
          have hgi : (dp : Int) < (dv : Int) + 1 := by omega
          clear hgt
          go_quiet (fail)
          go_wp2_with fail
          refine (HB4.out _).mono ?_
          rintro e w7 ⟨rfl, hw7⟩
          have H7 : Hid (MI w w7 w.heap.size 3 Js.nilS (.slice (some ⟨g, 0, none⟩) (ps.length + 1) cap) (dv + 1) (acc ++ [(([] : List Int), v)]) [] (ps ++ [b])) := by
            rw [hw7]
            exact (H6.out.ups ((Up.refl _).drewN nq)).deep (dv + 1)
          obtain ⟨D7, hD7e⟩ : ∃ D, D = dv + 1 := ⟨_, rfl⟩
          have hD7 : D7 ≤ 6002 := by omega
          rw [← hD7e] at H7 HDS
          have HD7 : Hid (D7 = (Js.ofM (acc ++ [(([] : List Int), v)])).deep + 1) := HDS.out.symm
          clear hw7 hD7e rc4 rf4 rc5 rf5 rx5 hgi
          have hw7s : lenOf (.string (bs t)) = t.length := by simp [lenOf, bs_size]
          by_cases h4n : s4 = []
          · subst h4n
            have HE : Hid (T = none) := hg2.out rfl
            clear e42
            go_wp2
            go_ret2
            exact ⟨_, [], rfl, H7.out.up, by simp, .inl ⟨by rw [HP.out, HE.out]; rfl, rfl⟩⟩
          · have hps4 : 0 < s4.length := List.length_pos_iff.2 h4n
            have hemp4 : s4.isEmpty = false := by cases s4 <;> simp_all
            obtain ⟨y, hy⟩ : ∃ y, y = Tx.at_ s4 0 := ⟨_, rfl⟩
            have hy1 : Tx.at_ s4 0 = y := hy.symm
            have HY := hide hy1
            obtain ⟨s5, hs5⟩ : ∃ x, x = s4.drop 1 := ⟨_, rfl⟩
            have hd5 : (bs s4).extract 1 s4.length = bs s5 := by rw [hs5]; exact e42 1
            have hl5 : s5.length + 1 = s4.length := by rw [hs5, List.length_drop]; omega
            have HS5 := hide hs5
            clear hy hs5 e42
            by_cases h44 : y = 44
            · have hp : Tx.pre [44] s4 = true := (Js.pre1 44 s4).2 (by rw [HY.out, h44]; rfl)
              have HG : Hid (T = Js.pre0 (acc ++ [(([] : List Int), v)]) (Js.items0 93 (Js.mem false (Js.rd n)) k s5)) := by
                have := hg1.out (by rw [hp]; rfl)
                rw [Tx.aft_t hp] at this
                rw [HS5.out]
                exact this
              subst h44
              clear hp
              go_wp2
              go_roundw
              case rel =>
                refine ⟨k - 1, D7, acc ++ [(([] : List Int), v)], s5, _, ps ++ [b], by simp [hd5], H7, by omega, by omega, by simp; omega, hD7, HD7, ?_⟩
                show _ = _
                rw [show k - 1 + 1 = k by omega]
                exact HG.out
              case measure => rw [hw7s]; simp [lenOf, hd5, bs_size]; omega
            · have b44 : (y != 44) = true := bne_iff_ne.2 h44
              have hp44 : Tx.pre [44] s4 = false := Js.pre1f (by rw [HY.out]; exact h44)
              have HG := hide (hg2.out (by rw [hp44]; rfl))
              clear h44 hp44
              by_cases h93 : y = 93
              · have hp : Tx.pre [93] s4 = true := (Js.pre1 93 s4).2 (by rw [HY.out, h93]; rfl)
                have HE : Hid (T = some (acc ++ [(([] : List Int), v)], s5)) := by
                  have := HG.out
                  rw [hp, Tx.aft_t hp] at this
                  rw [HS5.out]
                  exact this
                subst h93
                clear hp
                go_wp2
                go_ret2
                exact ⟨_, s5, rfl, H7.out.up, by omega, .inr ⟨.lst (Js.ofM (acc ++ [(([] : List Int), v)])), w.heap.size, by rw [HP.out, HE.out]; rfl, rfl, ⟨Nat.le_refl _, H7.out.row.lt⟩, MI.lst (HD7.out ▸ H7.out) (by rw [List.length_append, HPL.out]; simp; omega)⟩⟩
              · have b93 : (y != 93) = true := bne_iff_ne.2 h93
                have hp : Tx.pre [93] s4 = false := Js.pre1f (by rw [HY.out]; exact h93)
                have HE : Hid (T = none) := by
                  have := HG.out
                  rw [hp] at this
                  exact this
                clear h93 hp
                go_wp2
                go_ret2
                exact ⟨_, s4, rfl, H7.out.up, by omega, .inl ⟨by rw [HP.out, HE.out]; rfl, rfl⟩⟩
        · rw [if_neg hgt] at HDS
          have hgi : ¬ (dp : Int) < (dv : Int) + 1 := by omega
          clear hgt
          go_quiet (fail)
          go_wp2_with fail
          refine (HB4.out _).mono ?_
          rintro e w7 ⟨rfl, hw7⟩
          have H7 : Hid (MI w w7 w.heap.size 3 Js.nilS (.slice (some ⟨g, 0, none⟩) (ps.length + 1) cap) dp (acc ++ [(([] : List Int), v)]) [] (ps ++ [b])) := by
            rw [hw7]
            exact H6.out.ups ((Up.refl _).drewN nq)
          obtain ⟨D7, hD7e⟩ : ∃ D, D = dp := ⟨_, rfl⟩
          have hD7 : D7 ≤ 6002 := by omega
          rw [← hD7e] at H7 HDS
          have HD7 : Hid (D7 = (Js.ofM (acc ++ [(([] : List Int), v)])).deep + 1) := HDS.out.symm
          clear hw7 hD7e rc4 rf4 rc5 rf5 rx5 hgi
          have hw7s : lenOf (.string (bs t)) = t.length := by simp [lenOf, bs_size]
          by_cases h4n : s4 = []
          · subst h4n
            have HE : Hid (T = none) := hg2.out rfl
            clear e42
            go_wp2
            go_ret2
            exact ⟨_, [], rfl, H7.out.up, by simp, .inl ⟨by rw [HP.out, HE.out]; rfl, rfl⟩⟩
          · have hps4 : 0 < s4.length := List.length_pos_iff.2 h4n
            have hemp4 : s4.isEmpty = false := by cases s4 <;> simp_all
            obtain ⟨y, hy⟩ : ∃ y, y = Tx.at_ s4 0 := ⟨_, rfl⟩
            have hy1 : Tx.at_ s4 0 = y := hy.symm
            have HY := hide hy1
            obtain ⟨s5, hs5⟩ : ∃ x, x = s4.drop 1 := ⟨_, rfl⟩
            have hd5 : (bs s4).extract 1 s4.length = bs s5 := by rw [hs5]; exact e42 1
            have hl5 : s5.length + 1 = s4.length := by rw [hs5, List.length_drop]; omega
            have HS5 := hide hs5
            clear hy hs5 e42
            by_cases h44 : y = 44
            · have hp : Tx.pre [44] s4 = true := (Js.pre1 44 s4).2 (by rw [HY.out, h44]; rfl)
              have HG : Hid (T = Js.pre0 (acc ++ [(([] : List Int), v)]) (Js.items0 93 (Js.mem false (Js.rd n)) k s5)) := by
                have := hg1.out (by rw [hp]; rfl)
                rw [Tx.aft_t hp] at this
                rw [HS5.out]
                exact this
              subst h44
              clear hp
              go_wp2
              go_roundw
              case rel =>
                refine ⟨k - 1, D7, acc ++ [(([] : List Int), v)], s5, _, ps ++ [b], by simp [hd5], H7, by omega, by omega, by simp; omega, hD7, HD7, ?_⟩
                show _ = _
                rw [show k - 1 + 1 = k by omega]
                exact HG.out
              case measure => rw [hw7s]; simp [lenOf, hd5, bs_size]; omega
            · have b44 : (y != 44) = true := bne_iff_ne.2 h44
              have hp44 : Tx.pre [44] s4 = false := Js.pre1f (by rw [HY.out]; exact h44)
              have HG := hide (hg2.out (by rw [hp44]; rfl))
              clear h44 hp44
              by_cases h93 : y = 93
              · have hp : Tx.pre [93] s4 = true := (Js.pre1 93 s4).2 (by rw [HY.out, h93]; rfl)
                have HE : Hid (T = some (acc ++ [(([] : List Int), v)], s5)) := by
                  have := HG.out
                  rw [hp, Tx.aft_t hp] at this
                  rw [HS5.out]
                  exact this
                subst h93
                clear hp
                go_wp2
                go_ret2
                exact ⟨_, s5, rfl, H7.out.up, by omega, .inr ⟨.lst (Js.ofM (acc ++ [(([] : List Int), v)])), w.heap.size, by rw [HP.out, HE.out]; rfl, rfl, ⟨Nat.le_refl _, H7.out.row.lt⟩, MI.lst (HD7.out ▸ H7.out) (by rw [List.length_append, HPL.out]; simp; omega)⟩⟩
              · have b93 : (y != 93) = true := bne_iff_ne.2 h93
                have hp : Tx.pre [93] s4 = false := Js.pre1f (by rw [HY.out]; exact h93)
                have HE : Hid (T = none) := by
                  have := HG.out
                  rw [hp] at this
                  exact this
                clear h93 hp
                go_wp2
                go_ret2
                exact ⟨_, s4, rfl, H7.out.up, by omega, .inl ⟨by rw [HP.out, HE.out]; rfl, rfl⟩⟩
end Go.Proofs.YtoanonklmmbhgaaGreatDoor

/- THE DOCUMENT's JSON: objects. -/
namespace Go.Proofs.YtoanonklmmbhgaaGreatDoor
set_option linter.all false
open Go.RowKit Go.Deep

set_option maxRecDepth 100000 in
set_option maxHeartbeats 16000000 in
theorem many_object (n : Nat) (hn : n ≤ 6001) (IH : DReadAt n) (l : List UInt8) (h123 : Tx.at_ l 0 = 123) (hbare : Tx.bare l = l) (hln : l.length ≤ n + 1) (hl : l.length ≤ 6000) (w : World) :
    Calls Tryz.prog 98 #[.string (bs l), .int .i64 4, .int .u8 125] w (DRdPost (Js.lstD 123 125 true .obj (n + 1) l) l w) := by
  replace IH := hide IH
  obtain ⟨e0, -, e2, -, -, -⟩ := bs_tells l
  have hpos : 0 < l.length := Tx.lt_of_at (by omega)
  obtain ⟨l1, hl1⟩ : ∃ t, t = l.drop 1 := ⟨_, rfl⟩
  have hd1 : (bs l).extract 1 l.length = bs l1 := by rw [hl1]; exact e2 1
  have hlen1 : l1.length + 1 = l.length := by rw [hl1, List.length_drop]; omega
  have HB := hide (fun w => bare_any l1 w)
  obtain ⟨s, hs⟩ : ∃ s, s = Tx.bare l1 := ⟨_, rfl⟩
  rw [← hs] at HB
  have hsl : s.length ≤ l1.length := by rw [hs]; exact Tx.bare_le l1
  have HL0 : Hid (Js.list0 123 125 (Js.mem true (Js.rd n)) l = if Tx.pre [125] s = true then some ([], Tx.aft [125] s) else Js.items0 125 (Js.mem true (Js.rd n)) (l.length + 1) s) := by
    show _ = _
    have hp : Tx.pre [123] (Tx.bare l) = true := (Js.pre1 123 _).2 (by rw [hbare]; exact h123)
    unfold Js.list0
    rw [if_pos hp, Tx.aft_t hp, hbare, hs, hl1]
    rfl
  have HP : Hid (Js.lstD 123 125 true .obj (n + 1) l = (Js.list0 123 125 (Js.mem true (Js.rd n)) l).map fun x => (Js.V.obj (Js.ofM x.1), x.2)) := rfl
  obtain ⟨wA, hwA⟩ : ∃ W, W = w.alloc (.cells #[.int .i64 4, .string ⟨#[]⟩, .slice none 0 0, .slice none 0 0, .slice none 0 0, .int .i64 1] 98) := ⟨_, rfl⟩
  have HM : Hid (MI w wA w.heap.size 4 Js.nilS Js.nilS 1 [] [] []) := by rw [hwA]; exact MI.start w 4
  have HWA := hide hwA
  clear e2 hl1 hs hwA h123 hbare
  by_cases hE : Tx.pre [125] s = true
  · have HR : Hid (Js.lstD 123 125 true .obj (n + 1) l = some (.obj .nil, s.drop 1)) := by
      show _ = _
      rw [HP.out, HL0.out, if_pos hE, Tx.aft_t hE]; rfl
    have hat : Tx.at_ s 0 = 125 := (Js.pre1 125 s).1 hE
    have hps : 0 < s.length := Tx.lt_of_at (by omega)
    have hne : ¬ s = [] := fun e => by rw [e] at hps; simp at hps
    have hemp : s.isEmpty = false := by cases s <;> simp_all
    obtain ⟨e0', e1', e2', -, e4', -⟩ := bs_tells s
    obtain ⟨s1, hs1⟩ : ∃ t, t = s.drop 1 := ⟨_, rfl⟩
    have hds : (bs s).extract 1 s.length = bs s1 := by rw [hs1]; exact e2' 1
    have hls1 : s1.length ≤ s.length := by rw [hs1]; simp
    rw [← hs1] at HR
    clear hE HL0 HP e2' hs1
    go_enter Tryz.func98, Tryz.ntmps98
    go_wp2_with (go_at_call 51; refine (HB.out _).mono ?_; rintro e w1 ⟨rfl, hw⟩; replace hw := hw.symm; subst hw)
    go_quiet (fail)
    go_wp2
    go_ret2
    have HM2 := (HM.out.ups ((Up.refl _).drewN nq))
    rw [HWA.out] at HM2
    exact ⟨_, s1, rfl, HM2.up, by omega, .inr ⟨_, w.heap.size, HR.out, rfl, ⟨Nat.le_refl _, HM2.row.lt⟩, MI.obj (acc := []) (ys := []) (ps := []) HM2 (Nat.zero_le _) rfl⟩⟩
  · have HT0 : Hid (Js.list0 123 125 (Js.mem true (Js.rd n)) l = Js.pre0 [] (Js.items0 125 (Js.mem true (Js.rd n)) (l.length + 1) s)) := by
      show _ = _
      rw [HL0.out, if_neg hE, Js.pre0_nil]
    obtain ⟨T, hT⟩ : ∃ T, T = Js.list0 123 125 (Js.mem true (Js.rd n)) l := ⟨_, rfl⟩
    rw [← hT] at HT0 HP
    have hat : ∀ x, Tx.at_ s 0 = x → x ≠ 125 := fun x hx e => hE ((Js.pre1 125 s).2 (by rw [hx, e]; rfl))
    obtain ⟨e0', e1', -, -, e4', -⟩ := bs_tells s
    clear hE HL0 hT
    by_cases hs0 : s = []
    · subst hs0
      have HE : Hid (T = none) := by
        show _ = _
        rw [HT0.out]
        rfl
      clear hat
      go_enter Tryz.func98, Tryz.ntmps98
      go_wp2_with (go_at_call 51; refine (HB.out _).mono ?_; rintro e w1 ⟨rfl, hw⟩; replace hw := hw.symm; subst hw)
      rw [← HWA.out]
      go_loopw [0] (fun sv wr => sv = .string (bs []) ∧ wr = wA) (fun _ _ => 0)
      case atStart => exact ⟨rfl, rfl⟩
      case round =>
        obtain ⟨rfl, rfl⟩ := hrel
        go_wp2_with (go_at_call 51; refine (bare_any [] _).mono ?_; rintro e w1 ⟨rfl, hw⟩; replace hw := hw.symm; subst hw)
        refine (dChars_any [] _ (by simp)).mono ?_
        rintro e w2 ⟨cv, c, r, ok, rfl, -, u2, pstr, hrl, hcl⟩
        obtain rfl : r = [] := List.length_eq_zero_iff.1 (by simpa using hrl)
        have hok : ok = false := by
          cases ok
          · rfl
          · have h1 : Js.str [] = none := rfl
            rw [h1] at pstr
            cases pstr
        subst hok
        have HU : Hid (Up w w2) := HM.out.up.trans u2
        clear u2 pstr
        go_wp2_with (go_at_call 51; refine (bare_any [] _).mono ?_; rintro e w1 ⟨rfl, hw⟩; replace hw := hw.symm; subst hw)
        go_ret2
        exact ⟨_, [], rfl, HU.out, by simp, .inl ⟨by rw [HP.out, HE.out]; rfl, rfl⟩⟩
    have hps : 0 < s.length := List.length_pos_iff.2 hs0
    have hemp : s.isEmpty = false := by cases s <;> simp_all
    have hb125 : (Tx.at_ s 0 == 125) = false := beq_eq_false_iff_ne.2 (hat _ rfl)
    clear hat
    go_enter Tryz.func98, Tryz.ntmps98
    go_wp2_with (go_at_call 51; refine (HB.out _).mono ?_; rintro e w1 ⟨rfl, hw⟩; replace hw := hw.symm; subst hw)
    rw [← HWA.out]
    go_loopw [0] (fun sv wr => ∃ (k dp : Nat) (acc : List (List Int × Js.V)) (t : List UInt8) (nv lv : Value) (ys : List Js.NC) (ps : List Nat), sv = .string (bs t) ∧ Hid (MI w wr w.heap.size 4 nv lv dp acc ys ps) ∧ Hid (ys.map Js.NC.c = acc.map Prod.fst) ∧ t.length ≤ k ∧ t.length + 1 ≤ l.length ∧ acc.length + t.length ≤ 6000 ∧ dp ≤ 6002 ∧ Hid (dp = (Js.ofM acc).deep + 1) ∧ Hid (T = Js.pre0 acc (Js.items0 125 (Js.mem true (Js.rd n)) (k + 1) t))) (fun sv _ => lenOf sv)
    case atStart => exact ⟨l.length, 1, [], _, Js.nilS, Js.nilS, [], [], rfl, HM, rfl, by omega, by omega, by simp; omega, by omega, rfl, HT0⟩
    case round =>
      obtain ⟨wo, hw⟩ : ∃ x, x = wr := ⟨_, rfl⟩
      subst hw
      obtain ⟨k, dp, acc, t, nv, lv, ys, ps, rfl, HI, HNE, hk, htl, hat6, hdp, HDP, HT⟩ := hrel
      obtain ⟨la, ln, lc, rfl⟩ : ∃ a n c, lv = .slice a n c := own_shape HI.out.ownL
      obtain rfl : ln = ps.length := by obtain ⟨a, c, e⟩ := own_len HI.out.ownL; cases e; rfl
      obtain ⟨na, nn, nc, rfl⟩ : ∃ a n c, nv = .slice a n c := own_shape HI.out.ownN
      obtain rfl : nn = ys.length := by obtain ⟨a, c, e⟩ := own_len HI.out.ownN; cases e; rfl
      have HPL : Hid (ps.length = acc.length) := (Js.Ok.kids HI.out.kids).1
      have hpl6 : ps.length ≤ 6000 := by rw [HPL.out]; omega
      have hyl6 : ys.length ≤ 6000 := by
        have h1 := congrArg List.length HNE.out
        rw [List.length_map, List.length_map] at h1
        rw [h1]; omega
      have HBT := hide (bare_any t)
      obtain ⟨tb, htb⟩ : ∃ x, x = Tx.bare t := ⟨_, rfl⟩
      have hltb : tb.length ≤ t.length := by rw [htb]; exact Tx.bare_le t
      have HTB := hide htb
      unfold Hid at HBT
      rw [← htb] at HBT
      replace HBT := hide HBT
      clear htb
      go_wp2_with (go_at_call 51; refine (HBT.out _).mono ?_; rintro e w1 ⟨rfl, hw⟩; replace hw := hw.symm; subst hw)
      refine (dChars_any tb _ (by omega)).mono ?_
      rintro e w2 ⟨cv, c, r, ok, rfl, hownc, u2, pstr, hrl, hcl⟩
      obtain ⟨ca, cn, cc, rfl⟩ : ∃ a n c, cv = .slice a n c := own_shape hownc
      have HBR := hide (bare_any r)
      obtain ⟨rb, hrb⟩ : ∃ x, x = Tx.bare r := ⟨_, rfl⟩
      have hlrb : rb.length ≤ r.length := by rw [hrb]; exact Tx.bare_le r
      have HNAME : Hid (Js.name t = if ok = true then (if Tx.pre [58] rb = true then some (c, Tx.aft [58] rb) else none) else none) := by
        show _ = _
        unfold Js.name
        rw [← HTB.out, pstr, hrb]
        cases ok <;> rfl
      have HNN : Hid (Js.name t = none → T = none) := fun h => by
        have := (Js.go_on0 (b := true) (a := (([] : List Int), Js.V.nil)) (t := []) (bad := false) HT.out (by rw [Js.mem_name, h]; rfl)).2 rfl
        simpa using this
      unfold Hid at HBR
      rw [← hrb] at HBR
      replace HBR := hide HBR
      have HU2 : Hid (Up w w2) := HI.out.up.trans u2
      have HOC := hide hownc
      replace u2 := hide u2
      obtain ⟨r0, r1, r2, -, r4, -⟩ := bs_tells rb
      clear pstr hrb hownc
      cases ok
      · have HE : Hid (T = none) := HNN.out (by rw [HNAME.out]; rfl)
        clear r2
        go_wp2_with (go_at_call 51; refine (HBR.out _).mono ?_; rintro e w1 ⟨rfl, hw⟩; replace hw := hw.symm; subst hw)
        go_ret2
        exact ⟨_, tb, rfl, HU2.out, by omega, .inl ⟨by rw [HP.out, HE.out]; rfl, rfl⟩⟩
      by_cases hrb0 : rb = []
      · subst hrb0
        have HE : Hid (T = none) := HNN.out (by rw [HNAME.out]; rfl)
        clear r2
        go_wp2_with (go_at_call 51; refine (HBR.out _).mono ?_; rintro e w1 ⟨rfl, hw⟩; replace hw := hw.symm; subst hw)
        go_ret2
        exact ⟨_, tb, rfl, HU2.out, by omega, .inl ⟨by rw [HP.out, HE.out]; rfl, rfl⟩⟩
      have hrp : 0 < rb.length := List.length_pos_iff.2 hrb0
      have hremp : rb.isEmpty = false := by cases rb <;> simp_all
      by_cases h58 : Tx.at_ rb 0 = 58
      case neg =>
        have b58 : (Tx.at_ rb 0 != 58) = true := bne_iff_ne.2 h58
        have HE : Hid (T = none) := HNN.out (by rw [HNAME.out, if_pos rfl, if_neg (fun e => h58 ((Js.pre1 58 _).1 e))])
        clear h58 r2
        go_wp2_with (go_at_call 51; refine (HBR.out _).mono ?_; rintro e w1 ⟨rfl, hw⟩; replace hw := hw.symm; subst hw)
        go_ret2
        exact ⟨_, tb, rfl, HU2.out, by omega, .inl ⟨by rw [HP.out, HE.out]; rfl, rfl⟩⟩
      have b58 : (Tx.at_ rb 0 != 58) = false := by rw [h58]; rfl
      obtain ⟨t3, ht3⟩ : ∃ x, x = rb.drop 1 := ⟨_, rfl⟩
      have hd3 : (bs rb).extract 1 rb.length = bs t3 := by rw [ht3]; exact r2 1
      have hlt3 : t3.length + 1 = rb.length := by rw [ht3, List.length_drop]; omega
      have HNM : Hid (Js.name t = some (c, t3)) := by
        have hp : Tx.pre [58] rb = true := (Js.pre1 58 _).2 h58
        show _ = _
        rw [HNAME.out, if_pos rfl, if_pos hp, Tx.aft_t hp, ht3]; rfl
      have h2 := HI.out.ups u2.out
      have c3 := h2.row.cell (i := 3) rfl
      have HOA := hide (h2.ownN.alloc (.cells #[.slice ca cn cc] 24))
      have hrbn : Hid (ys.length ≤ 1073741824) := by show _ ≤ _; omega
      have hsz2 := hide h2.up.size
      have H2 := hide h2
      clear h58 r2 ht3 h2 HNAME HNN
      go_wp2_with (first
        | (go_at_call 51; refine (HBR.out _).mono ?_; rintro e w1 ⟨rfl, hw⟩; replace hw := hw.symm; subst hw)
        | (at_builtin; refine wpList_app el_names rfl (.tmp 61) (.tmp 63) rfl w.heap.size _ _ _ (by rfl) HOA.out w2.heap.size [.slice ca cn cc] (by rfl) rfl (heap_alloc_new w2 _) (by intro u hu; simp at hu; subst hu; rfl) hrbn.out (by simp; have := hsz2.out; omega) ?_; intro g3 cap3 w5n hown5 hg5 hat5 hlt5; have H3 := hide (MI.name HI.out u2.out HOC.out hcl hown5 hg5 hat5 hlt5); have row5 := (Fr.of_grown hg5).row (H2.out.ups ((Up.refl w2).alloc (.cells #[.slice ca cn cc] 24))).row (own_row_ne (H2.out.ups ((Up.refl w2).alloc (.cells #[.slice ca cn cc] 24))).ownN (H2.out.ups ((Up.refl w2).alloc (.cells #[.slice ca cn cc] 24))).row (by decide)); have rc3 := row5.cell (i := 3) rfl; have rf3 := row5.frozen 3; clear hown5 hg5 hat5 hlt5 row5)
        | (go_at_call 57; fail))
      obtain ⟨wN, hwN⟩ : ∃ W, W = w5n.setCell ⟨w.heap.size, 3, none⟩ (.slice (some ⟨g3, 0, none⟩) (ys.length + 1) cap3) := ⟨_, rfl⟩
      rw [← hwN]
      replace H3 : Hid (MI w wN w.heap.size 4 (.slice (some ⟨g3, 0, none⟩) (ys.length + 1) cap3) (.slice la ps.length lc) dp acc (ys ++ [⟨.slice ca cn cc, c⟩]) ps) := by rw [hwN]; exact H3.out
      clear hwN rc3 rf3 c3 HI
      have HI := H3
      clear H3
      refine (IH.out t3 (by omega) (by omega) _).mono ?_
      rintro e w4 ⟨pv, t4, rfl, u4, ht4, hcase⟩
      rcases hcase with ⟨hnone, rfl⟩ | ⟨v, b, hsome, rfl, hb, hok⟩
      · have HE : Hid (T = none) := by
          have := (Js.go_on0 (b := true) (a := (([] : List Int), Js.V.nil)) (t := []) (bad := false) HT.out (by rw [Js.mem_name, HNM.out]; simp [hnone])).2 rfl
          simpa [Hid] using this
        have HU : Hid (Up w w4) := HI.out.up.trans u4
        clear hnone u4 HT
        go_wp2
        go_ret2
        exact ⟨_, t3, rfl, HU.out, by omega, .inl ⟨by rw [HP.out, HE.out]; rfl, rfl⟩⟩
      · obtain ⟨hg1, hg2⟩ := Js.go_on0 (b := false) (a := (c, v)) (t := t4) (bad := false) HT.out (by rw [Js.mem_name, HNM.out]; simp [hsome])
        have hlt4 : t4.length + 1 ≤ t3.length := Js.rd_lt _ _ _ _ hsome
        obtain ⟨kd, sx, xcv, xnv, xlv, hrowx⟩ := (hok.one (Js.rd_val hsome)).2
        obtain ⟨dv, hdv⟩ : ∃ d, d = v.deep := ⟨_, rfl⟩
        have hdv6 : dv ≤ 6001 := by rw [hdv]; have := Js.rd_deep hsome; omega
        rw [← hdv] at hrowx
        have HDV := hide hdv
        have HIV := hide (Js.rd_val hsome)
        have HB4 := hide (bare_any t4)
        obtain ⟨s4, hs4⟩ : ∃ x, x = Tx.bare t4 := ⟨_, rfl⟩
        have hls4 : s4.length ≤ t4.length := by rw [hs4]; exact Tx.bare_le t4
        rw [← hs4] at hg1 hg2
        unfold Hid at HB4
        rw [← hs4] at HB4
        replace HB4 := hide HB4
        replace hg1 := hide hg1
        replace hg2 := hide hg2
        have h4 := HI.out.ups u4
        have c4 := h4.row.cell (i := 4) rfl
        have HOA := hide (h4.ownL.alloc (.cells #[.pointer (some ⟨b, 0, none⟩)] 92))
        have hrb : Hid (ps.length ≤ 1073741824) := by show _ ≤ _; omega
        have hsz4 := hide h4.up.size
        have HOK := hide hok
        have HBB := hide hb
        have HRX := hide hrowx
        have H4 := hide h4
        have HU4 := hide u4
        have hbne : b ≠ w.heap.size := by
          have h1 := HI.out.row.lt
          omega
        have hbne2 : w.heap.size ≠ b := fun e => hbne e.symm
        have HLB : Hid ((Value.slice la ps.length lc).ownBlock ≠ some b) := fun e => by
          have h1 := (own_lt HI.out.ownL e).2
          omega
        clear hsome hdv hs4 HT hok h4 u4 hrowx
        go_wp2_with (at_builtin; refine wpList_app el_vals rfl (.tmp 82) (.tmp 84) rfl w.heap.size _ _ _ (by rfl) HOA.out w4.heap.size [.pointer (some ⟨b, 0, none⟩)] (by rfl) rfl (heap_alloc_new w4 _) (by intro u hu; simp at hu; subst hu; rfl) hrb.out (by simp; have := hsz4.out; omega) ?_; intro g cap w5 hown5 hg5 hat5 hlt5; have H6 := hide (MI.kid (n := c) HI.out HU4.out HOK.out HBB.out HIV.out hown5 hg5 hat5 hlt5); have row5 := (Fr.of_grown hg5).row (H4.out.ups ((Up.refl w4).alloc (.cells #[.pointer (some ⟨b, 0, none⟩)] 92))).row (own_row_ne (H4.out.ups ((Up.refl w4).alloc (.cells #[.pointer (some ⟨b, 0, none⟩)] 92))).ownL (H4.out.ups ((Up.refl w4).alloc (.cells #[.pointer (some ⟨b, 0, none⟩)] 92))).row (by decide)); have rc4 := row5.cell (i := 4) rfl; have rf4 := row5.frozen 4; have rc5 := row5.cell (i := 5) rfl; have rf5 := row5.frozen 5; have rx5 := ((HRX.out.alloc (.cells #[.pointer (some ⟨b, 0, none⟩)] 92)).grown hg5 HLB.out).cell (i := 5) rfl; clear hown5 hg5 hat5 hlt5 row5)
        have HDS : Hid ((Js.ofM (acc ++ [(c, v)])).deep + 1 = if dp < dv + 1 then dv + 1 else dp) := by
          show _ = _
          rw [Js.deep_snoc, HDP.out, HDV.out]
          have h1 := Nat.le_max_left (Js.ofM acc).deep v.deep
          have h2 := Nat.le_max_right (Js.ofM acc).deep v.deep
          have h3 : Nat.max (Js.ofM acc).deep v.deep = (Js.ofM acc).deep ∨ Nat.max (Js.ofM acc).deep v.deep = v.deep := by
            rcases Nat.le_total (Js.ofM acc).deep v.deep with h | h
            · exact .inr (Nat.max_eq_right h)
            · exact .inl (Nat.max_eq_left h)
          split <;> (rcases h3 with h3 | h3 <;> simp only [h3] at * <;> omega)
        obtain ⟨e40, e41, e42, -, e44, -⟩ := bs_tells s4
        by_cases hgt : dp < dv + 1
        · rw [if_pos hgt] at HDS
          have hgi : (dp : Int) < (dv : Int) + 1 := by omega
          clear hgt
          go_quiet (fail)
          go_wp2_with fail
          refine (HB4.out _).mono ?_
          rintro e w7 ⟨rfl, hw7⟩
          have H7 : Hid (MI w w7 w.heap.size 4 (.slice (some ⟨g3, 0, none⟩) (ys.length + 1) cap3) (.slice (some ⟨g, 0, none⟩) (ps.length + 1) cap) (dv + 1) (acc ++ [(c, v)]) (ys ++ [⟨.slice ca cn cc, c⟩]) (ps ++ [b])) := by
            rw [hw7]
            exact (H6.out.ups ((Up.refl _).drewN nq)).deep (dv + 1)
          obtain ⟨D7, hD7e⟩ : ∃ D, D = dv + 1 := ⟨_, rfl⟩
          have hD7 : D7 ≤ 6002 := by omega
          rw [← hD7e] at H7 HDS
          have HD7 : Hid (D7 = (Js.ofM (acc ++ [(c, v)])).deep + 1) := HDS.out.symm
          clear hw7 hD7e rc4 rf4 rc5 rf5 rx5 hgi
          have hw7s : lenOf (.string (bs t)) = t.length := by simp [lenOf, bs_size]
          by_cases h4n : s4 = []
          · subst h4n
            have HE : Hid (T = none) := hg2.out rfl
            clear e42
            go_wp2
            go_ret2
            exact ⟨_, [], rfl, H7.out.up, by simp, .inl ⟨by rw [HP.out, HE.out]; rfl, rfl⟩⟩
          · have hps4 : 0 < s4.length := List.length_pos_iff.2 h4n
            have hemp4 : s4.isEmpty = false := by cases s4 <;> simp_all
            obtain ⟨y, hy⟩ : ∃ y, y = Tx.at_ s4 0 := ⟨_, rfl⟩
            have hy1 : Tx.at_ s4 0 = y := hy.symm
            have HY := hide hy1
            obtain ⟨s5, hs5⟩ : ∃ x, x = s4.drop 1 := ⟨_, rfl⟩
            have hd5 : (bs s4).extract 1 s4.length = bs s5 := by rw [hs5]; exact e42 1
            have hl5 : s5.length + 1 = s4.length := by rw [hs5, List.length_drop]; omega
            have HS5 := hide hs5
            clear hy hs5 e42
            by_cases h44 : y = 44
            · have hp : Tx.pre [44] s4 = true := (Js.pre1 44 s4).2 (by rw [HY.out, h44]; rfl)
              have HG : Hid (T = Js.pre0 (acc ++ [(c, v)]) (Js.items0 125 (Js.mem true (Js.rd n)) k s5)) := by
                have := hg1.out (by rw [hp]; rfl)
                rw [Tx.aft_t hp] at this
                rw [HS5.out]
                exact this
              subst h44
              clear hp
              go_wp2
              go_roundw
              case rel =>
                refine ⟨k - 1, D7, acc ++ [(c, v)], s5, _, _, ys ++ [⟨.slice ca cn cc, c⟩], ps ++ [b], by simp [hd5], H7, by show _ = _; rw [List.map_append, List.map_append, HNE.out]; rfl, by omega, by omega, by simp; omega, hD7, HD7, ?_⟩
                show _ = _
                rw [show k - 1 + 1 = k by omega]
                exact HG.out
              case measure => rw [hw7s]; simp [lenOf, hd5, bs_size]; omega
            · have b44 : (y != 44) = true := bne_iff_ne.2 h44
              have hp44 : Tx.pre [44] s4 = false := Js.pre1f (by rw [HY.out]; exact h44)
              have HG := hide (hg2.out (by rw [hp44]; rfl))
              clear h44 hp44
              by_cases h125 : y = 125
              · have hp : Tx.pre [125] s4 = true := (Js.pre1 125 s4).2 (by rw [HY.out, h125]; rfl)
                have HE : Hid (T = some (acc ++ [(c, v)], s5)) := by
                  have := HG.out
                  rw [hp, Tx.aft_t hp] at this
                  rw [HS5.out]
                  exact this
                subst h125
                clear hp
                go_wp2
                go_ret2
                exact ⟨_, s5, rfl, H7.out.up, by omega, .inr ⟨.obj (Js.ofM (acc ++ [(c, v)])), w.heap.size, by rw [HP.out, HE.out]; rfl, rfl, ⟨Nat.le_refl _, H7.out.row.lt⟩, MI.obj (HD7.out ▸ H7.out) (by rw [List.length_append, HPL.out]; simp; omega) (by rw [List.map_append, List.map_append, HNE.out]; rfl)⟩⟩
              · have b125 : (y != 125) = true := bne_iff_ne.2 h125
                have hp : Tx.pre [125] s4 = false := Js.pre1f (by rw [HY.out]; exact h125)
                have HE : Hid (T = none) := by
                  have := HG.out
                  rw [hp] at this
                  exact this
                clear h125 hp
                go_wp2
                go_ret2
                exact ⟨_, s4, rfl, H7.out.up, by omega, .inl ⟨by rw [HP.out, HE.out]; rfl, rfl⟩⟩
        · rw [if_neg hgt] at HDS
          have hgi : ¬ (dp : Int) < (dv : Int) + 1 := by omega
          clear hgt
          go_quiet (fail)
          go_wp2_with fail
          refine (HB4.out _).mono ?_
          rintro e w7 ⟨rfl, hw7⟩
          have H7 : Hid (MI w w7 w.heap.size 4 (.slice (some ⟨g3, 0, none⟩) (ys.length + 1) cap3) (.slice (some ⟨g, 0, none⟩) (ps.length + 1) cap) dp (acc ++ [(c, v)]) (ys ++ [⟨.slice ca cn cc, c⟩]) (ps ++ [b])) := by
            rw [hw7]
            exact H6.out.ups ((Up.refl _).drewN nq)
          obtain ⟨D7, hD7e⟩ : ∃ D, D = dp := ⟨_, rfl⟩
          have hD7 : D7 ≤ 6002 := by omega
          rw [← hD7e] at H7 HDS
          have HD7 : Hid (D7 = (Js.ofM (acc ++ [(c, v)])).deep + 1) := HDS.out.symm
          clear hw7 hD7e rc4 rf4 rc5 rf5 rx5 hgi
          have hw7s : lenOf (.string (bs t)) = t.length := by simp [lenOf, bs_size]
          by_cases h4n : s4 = []
          · subst h4n
            have HE : Hid (T = none) := hg2.out rfl
            clear e42
            go_wp2
            go_ret2
            exact ⟨_, [], rfl, H7.out.up, by simp, .inl ⟨by rw [HP.out, HE.out]; rfl, rfl⟩⟩
          · have hps4 : 0 < s4.length := List.length_pos_iff.2 h4n
            have hemp4 : s4.isEmpty = false := by cases s4 <;> simp_all
            obtain ⟨y, hy⟩ : ∃ y, y = Tx.at_ s4 0 := ⟨_, rfl⟩
            have hy1 : Tx.at_ s4 0 = y := hy.symm
            have HY := hide hy1
            obtain ⟨s5, hs5⟩ : ∃ x, x = s4.drop 1 := ⟨_, rfl⟩
            have hd5 : (bs s4).extract 1 s4.length = bs s5 := by rw [hs5]; exact e42 1
            have hl5 : s5.length + 1 = s4.length := by rw [hs5, List.length_drop]; omega
            have HS5 := hide hs5
            clear hy hs5 e42
            by_cases h44 : y = 44
            · have hp : Tx.pre [44] s4 = true := (Js.pre1 44 s4).2 (by rw [HY.out, h44]; rfl)
              have HG : Hid (T = Js.pre0 (acc ++ [(c, v)]) (Js.items0 125 (Js.mem true (Js.rd n)) k s5)) := by
                have := hg1.out (by rw [hp]; rfl)
                rw [Tx.aft_t hp] at this
                rw [HS5.out]
                exact this
              subst h44
              clear hp
              go_wp2
              go_roundw
              case rel =>
                refine ⟨k - 1, D7, acc ++ [(c, v)], s5, _, _, ys ++ [⟨.slice ca cn cc, c⟩], ps ++ [b], by simp [hd5], H7, by show _ = _; rw [List.map_append, List.map_append, HNE.out]; rfl, by omega, by omega, by simp; omega, hD7, HD7, ?_⟩
                show _ = _
                rw [show k - 1 + 1 = k by omega]
                exact HG.out
              case measure => rw [hw7s]; simp [lenOf, hd5, bs_size]; omega
            · have b44 : (y != 44) = true := bne_iff_ne.2 h44
              have hp44 : Tx.pre [44] s4 = false := Js.pre1f (by rw [HY.out]; exact h44)
              have HG := hide (hg2.out (by rw [hp44]; rfl))
              clear h44 hp44
              by_cases h125 : y = 125
              · have hp : Tx.pre [125] s4 = true := (Js.pre1 125 s4).2 (by rw [HY.out, h125]; rfl)
                have HE : Hid (T = some (acc ++ [(c, v)], s5)) := by
                  have := HG.out
                  rw [hp, Tx.aft_t hp] at this
                  rw [HS5.out]
                  exact this
                subst h125
                clear hp
                go_wp2
                go_ret2
                exact ⟨_, s5, rfl, H7.out.up, by omega, .inr ⟨.obj (Js.ofM (acc ++ [(c, v)])), w.heap.size, by rw [HP.out, HE.out]; rfl, rfl, ⟨Nat.le_refl _, H7.out.row.lt⟩, MI.obj (HD7.out ▸ H7.out) (by rw [List.length_append, HPL.out]; simp; omega) (by rw [List.map_append, List.map_append, HNE.out]; rfl)⟩⟩
              · have b125 : (y != 125) = true := bne_iff_ne.2 h125
                have hp : Tx.pre [125] s4 = false := Js.pre1f (by rw [HY.out]; exact h125)
                have HE : Hid (T = none) := by
                  have := HG.out
                  rw [hp] at this
                  exact this
                clear h125 hp
                go_wp2
                go_ret2
                exact ⟨_, s4, rfl, H7.out.up, by omega, .inl ⟨by rw [HP.out, HE.out]; rfl, rfl⟩⟩
end Go.Proofs.YtoanonklmmbhgaaGreatDoor

/- THE DOCUMENT's JSON: values. -/
namespace Go.Proofs.YtoanonklmmbhgaaGreatDoor
set_option linter.all false
open Go.RowKit Go.Deep

namespace Js
def wd : Nat → List UInt8
  | 0 => tru
  | 1 => fal
  | _ => nul
theorem rd_word {n i : Nat} {l : List UInt8} (hp : Tx.pre (wd i) (Tx.bare l) = true) : rd n l = some (.word, (Tx.bare l).drop (wd i).length) := by
  have key : ∀ (c : UInt8) (k : List UInt8), (c :: k = tru ∨ c :: k = fal ∨ c :: k = nul) → (c.toNat : Int) ≠ 91 → (c.toNat : Int) ≠ 123 → Tx.pre (c :: k) (Tx.bare l) = true → rd n l = some (.word, (Tx.bare l).drop (c :: k).length) := by
    intro c k hk h1 h2 hp
    have ha := word_first hp
    rw [rd_eq, if_neg (by omega), if_neg (by omega), leaf_word c k hk ha, if_pos hp, Tx.aft_t hp]
  match i, hp with
  | 0, hp => exact key 116 _ (.inl rfl) (by decide) (by decide) hp
  | 1, hp => exact key 102 _ (.inr (.inl rfl)) (by decide) (by decide) hp
  | _ + 2, hp => exact key 110 _ (.inr (.inr rfl)) (by decide) (by decide) hp
theorem leaf_no {s : List UInt8} (h : ∀ j, j < 3 → Tx.pre (wd j) s = false) : leaf s = if Tx.at_ s 0 = 34 then (str s).map fun x => (.txt x.1, x.2) else if Tx.num false s = 0 then none else some (.num (s.take (Tx.num false s)), s.drop (Tx.num false s)) := by
  have h0 : Tx.pre tru s = false := h 0 (by omega)
  have h1 : Tx.pre fal s = false := h 1 (by omega)
  have h2 : Tx.pre nul s = false := h 2 (by omega)
  unfold leaf
  rw [h0, h1, h2]
  rfl
theorem wd_len (i : Nat) : (wd i).length ≤ 5 := by
  match i with
  | 0 => decide
  | 1 => decide
  | _ + 2 => show nul.length ≤ 5; decide
end Js

theorem ok_word {w wB : World} (hu : Up w wB) : (w.heap.size ≤ wB.heap.size ∧ wB.heap.size < (wB.alloc (.cells #[.int .i64 0, .string ⟨#[]⟩, .slice none 0 0, .slice none 0 0, .slice none 0 0, .int .i64 0] 98)).heap.size) ∧ Js.Ok (fun b => w.heap.size ≤ b ∧ b < (wB.alloc (.cells #[.int .i64 0, .string ⟨#[]⟩, .slice none 0 0, .slice none 0 0, .slice none 0 0, .int .i64 0] 98)).heap.size) (wB.alloc (.cells #[.int .i64 0, .string ⟨#[]⟩, .slice none 0 0, .slice none 0 0, .slice none 0 0, .int .i64 0] 98)) .word [wB.heap.size] := by
  have h := VRow.new wB (Js.vcells 0 [] Js.nilS Js.nilS Js.nilS 0) 98
  have hk : w.heap.size ≤ wB.heap.size ∧ wB.heap.size < (wB.alloc (.cells #[.int .i64 0, .string ⟨#[]⟩, .slice none 0 0, .slice none 0 0, .slice none 0 0, .int .i64 0] 98)).heap.size := ⟨hu.size, h.lt⟩
  exact ⟨hk, wB.heap.size, rfl, hk, h⟩
theorem ok_num {w wB : World} {s : List UInt8} (hu : Up w wB) (hs : Du.Shape s) (hl : s.length ≤ 6000) : (w.heap.size ≤ wB.heap.size ∧ wB.heap.size < (wB.alloc (.cells #[.int .i64 1, .string (bs s), .slice none 0 0, .slice none 0 0, .slice none 0 0, .int .i64 0] 98)).heap.size) ∧ Js.Ok (fun b => w.heap.size ≤ b ∧ b < (wB.alloc (.cells #[.int .i64 1, .string (bs s), .slice none 0 0, .slice none 0 0, .slice none 0 0, .int .i64 0] 98)).heap.size) (wB.alloc (.cells #[.int .i64 1, .string (bs s), .slice none 0 0, .slice none 0 0, .slice none 0 0, .int .i64 0] 98)) (.num s) [wB.heap.size] := by
  have h := VRow.new wB (Js.vcells 1 s Js.nilS Js.nilS Js.nilS 0) 98
  have hk : w.heap.size ≤ wB.heap.size ∧ wB.heap.size < (wB.alloc (.cells #[.int .i64 1, .string (bs s), .slice none 0 0, .slice none 0 0, .slice none 0 0, .int .i64 0] 98)).heap.size := ⟨hu.size, h.lt⟩
  exact ⟨hk, wB.heap.size, rfl, hk, h, hs, hl⟩
theorem ok_txt {w wB : World} {cv : Value} {c : List Int} (hu : Up w wB) (hc : wB.ownsRow w.heap.size 3 1 cv c.length (Js.ints c)) (hl : c.length ≤ 6000) : (w.heap.size ≤ wB.heap.size ∧ wB.heap.size < (wB.alloc (.cells #[.int .i64 2, .string ⟨#[]⟩, cv, .slice none 0 0, .slice none 0 0, .int .i64 0] 98)).heap.size) ∧ Js.Ok (fun b => w.heap.size ≤ b ∧ b < (wB.alloc (.cells #[.int .i64 2, .string ⟨#[]⟩, cv, .slice none 0 0, .slice none 0 0, .int .i64 0] 98)).heap.size) (wB.alloc (.cells #[.int .i64 2, .string ⟨#[]⟩, cv, .slice none 0 0, .slice none 0 0, .int .i64 0] 98)) (.txt c) [wB.heap.size] := by
  have h := VRow.new wB (Js.vcells 2 [] cv Js.nilS Js.nilS 0) 98
  have hk : w.heap.size ≤ wB.heap.size ∧ wB.heap.size < (wB.alloc (.cells #[.int .i64 2, .string ⟨#[]⟩, cv, .slice none 0 0, .slice none 0 0, .int .i64 0] 98)).heap.size := ⟨hu.size, h.lt⟩
  have hA := hc.alloc (.cells #[.int .i64 2, .string ⟨#[]⟩, cv, .slice none 0 0, .slice none 0 0, .int .i64 0] 98)
  exact ⟨hk, wB.heap.size, cv, rfl, hk, h, own_base hA (Nat.zero_le _), fun g hg => own_lt hA hg, hl⟩

set_option maxRecDepth 100000 in
set_option maxHeartbeats 16000000 in
theorem dRead_of (n : Nat) (hn : n ≤ 6000)
    (HML : ∀ (l : List UInt8), Tx.at_ l 0 = 91 → Tx.bare l = l → l.length ≤ n → l.length ≤ 6000 → ∀ w, Calls Tryz.prog 98 #[.string (bs l), .int .i64 3, .int .u8 93] w (DRdPost (Js.lstD 91 93 false .lst n l) l w))
    (HMO : ∀ (l : List UInt8), Tx.at_ l 0 = 123 → Tx.bare l = l → l.length ≤ n → l.length ≤ 6000 → ∀ w, Calls Tryz.prog 98 #[.string (bs l), .int .i64 4, .int .u8 125] w (DRdPost (Js.lstD 123 125 true .obj n l) l w)) : DReadAt n := by
  intro l hln hl w
  replace HML := hide HML
  replace HMO := hide HMO
  have HB := hide (fun w => bare_any l w)
  have HW := hide (fun i h => Js.rd_word (n := n) (i := i) (l := l) h)
  have HRD := hide (Js.rd_eq n l)
  have HBB := hide (Tx.bare_bare l)
  have HL1 := hide (Js.lstD_bare 91 93 false .lst n l)
  have HL2 := hide (Js.lstD_bare 123 125 true .obj n l)
  obtain ⟨s, hs⟩ : ∃ s, s = Tx.bare l := ⟨_, rfl⟩
  have hsl : s.length ≤ l.length := by rw [hs]; exact Tx.bare_le l
  rw [← hs] at HB HW HRD HBB HL1 HL2
  clear hs
  obtain ⟨e0, e1, e2, e3, e4, -⟩ := bs_tells s
  obtain ⟨wA, hwA⟩ : ∃ W, W = w.alloc (.cells #[.string ⟨#[116, 114, 117, 101]⟩, .string ⟨#[102, 97, 108, 115, 101]⟩, .string ⟨#[110, 117, 108, 108]⟩] 9) := ⟨_, rfl⟩
  have HU : Hid (Up w wA) := by rw [hwA]; exact (Up.refl w).alloc _
  have HM : Hid (∀ i : Nat, i < 3 → wA.cell? ⟨w.heap.size, i, none⟩ = some (.string (bs (Js.wd i)))) := by
    intro i hi
    rw [hwA]
    have := VRow.new w [.string (bs Js.tru), .string (bs Js.fal), .string (bs Js.nul)] 9
    refine VRow.cell this ?_
    match i, hi with
    | 0, _ => rfl
    | 1, _ => rfl
    | 2, _ => rfl
  have HWA := hide hwA
  clear hwA
  go_enter Tryz.func57, Tryz.ntmps57
  go_wp2_with (go_at_call 51; refine (HB.out _).mono ?_; rintro e w1 ⟨rfl, hw⟩; replace hw := hw.symm; subst hw)
  rw [← HWA.out]
  go_loopw [5] (fun iv wr => ∃ i : Nat, i ≤ 3 ∧ iv = .int .i64 i ∧ Hid (∀ j, j < i → Tx.pre (Js.wd j) s = false) ∧ ∃ q, wr = wA.drewN q) (fun iv _ => 3 - (intOf iv).toNat)
  case atStart => exact ⟨0, by omega, rfl, fun j hj => by omega, 0, rfl⟩
  case round =>
    obtain ⟨i, hi, rfl, HN, q, rfl⟩ := hrel
    by_cases hlt : i < 3
    · have hcell := HM.out i hlt
      obtain ⟨k, hk⟩ : ∃ k, k = Js.wd i := ⟨_, rfl⟩
      have hkl : k.length ≤ 5 := by rw [hk]; exact Js.wd_len i
      rw [← hk] at hcell
      have HK := hide hk
      have k0 := bs_size k
      have k4 := bs_toList k
      have k3 : (bs (s.take k.length)).toList = s.take k.length := bs_toList _
      clear hk
      by_cases hlen : s.length < k.length
      · have HP : Hid (Tx.pre (Js.wd i) s = false) := by
          show _ = _
          rw [← HK.out]
          unfold Tx.pre
          refine beq_eq_false_iff_ne.2 fun e => ?_
          have := congrArg List.length e
          simp at this
          omega
        have hd : decide (k.length ≤ s.length) = false := by simp; omega
        go_wp2
        go_quiet (fail)
        go_wp2
        go_roundw
        case rel =>
          refine ⟨i + 1, by omega, by go_num, fun j hj => ?_, _, rfl⟩
          by_cases hji : j < i
          · exact HN.out j hji
          · obtain rfl : j = i := by omega
            exact HP.out
        case measure => simp [intOf]; omega
      · have hd : decide (k.length ≤ s.length) = true := by simp; omega
        by_cases hp : (s.take k.length == k) = true
        · have HE : Hid (Js.rd n l = some (.word, s.drop k.length)) := by
            have := HW.out i (by rw [← HK.out]; exact hp)
            rw [← HK.out] at this
            exact this
          have hkd : (bs s).extract k.length s.length = bs (s.drop k.length) := e2 k.length
          go_wp2
          go_quiet (fail)
          go_wp2
          go_region_with (fail)
          all_goals
            go_wp2
            go_ret2
            exact ⟨_, s.drop k.length, rfl, (HU.out.drewN _).alloc _, by rw [List.length_drop]; omega, .inr ⟨.word, wA.heap.size, HE.out, rfl, ok_word (wB := wA.drewN _) (HU.out.drewN _)⟩⟩
        · have hp : (s.take k.length == k) = false := by simpa using hp
          have HP : Hid (Tx.pre (Js.wd i) s = false) := by
            show _ = _
            rw [← HK.out]
            exact hp
          go_wp2
          go_quiet (fail)
          go_wp2
          go_roundw
          case rel =>
            refine ⟨i + 1, by omega, by go_num, fun j hj => ?_, _, rfl⟩
            by_cases hji : j < i
            · exact HN.out j hji
            · obtain rfl : j = i := by omega
              exact HP.out
          case measure => simp [intOf]; omega
    · obtain rfl : i = 3 := by omega
      have HLF := hide (Js.leaf_no HN.out)
      have HU2 : Hid (Up w (wA.drewN q)) := HU.out.drewN q
      by_cases hs0 : s = []
      · subst hs0
        have HE : Hid (Js.rd n l = none) := by
          show _ = _
          rw [HRD.out]; rfl
        clear e2 e3
        go_wp2
        go_ret2
        exact ⟨_, [], rfl, HU2.out, by simp, .inl ⟨HE.out, rfl⟩⟩
      have hps : 0 < s.length := List.length_pos_iff.2 hs0
      have hemp : s.isEmpty = false := by cases s <;> simp_all
      obtain ⟨x, hx⟩ : ∃ x, x = Tx.at_ s 0 := ⟨_, rfl⟩
      have hx1 : Tx.at_ s 0 = x := hx.symm
      have HX := hide hx1
      clear hx
      by_cases c34 : x = 34
      · have HE : Hid (Js.rd n l = (Js.str s).map fun y => (Js.V.txt y.1, y.2)) := by
          show _ = _
          rw [HRD.out, if_neg (by rw [HX.out]; omega), if_neg (by rw [HX.out]; omega), HLF.out, if_pos (by rw [HX.out]; exact c34)]
        subst c34
        clear e2 e3
        go_wp2_with fail
        refine (dChars_any s _ (by omega)).mono ?_
        rintro e w2 ⟨cv, c, r, ok, rfl, hownc, u2, pstr, hrl, hcl⟩
        obtain ⟨ca, cn, cc, rfl⟩ : ∃ a n c, cv = .slice a n c := own_shape hownc
        have HU3 : Hid (Up w w2) := HU2.out.trans u2
        have HOC : Hid (w2.ownsRow w.heap.size 3 1 (.slice ca cn cc) c.length (Js.ints c)) := own_base hownc HU2.out.size
        have HST := hide pstr
        clear hownc u2 pstr
        cases ok
        · go_wp2
          go_ret2
          exact ⟨_, s, rfl, HU3.out, by omega, .inl ⟨by rw [HE.out, HST.out]; rfl, rfl⟩⟩
        · go_wp2
          go_ret2
          exact ⟨_, r, rfl, HU3.out.alloc _, by omega, .inr ⟨.txt c, w2.heap.size, by rw [HE.out, HST.out]; rfl, rfl, ok_txt HU3.out HOC.out hcl⟩⟩
      have b34 := beq_eq_false_iff_ne.2 c34
      by_cases c91 : x = 91
      · have HE : Hid (Js.rd n l = Js.lstD 91 93 false .lst n s) := by
          show _ = _
          rw [HRD.out, if_pos (by rw [HX.out]; exact c91), HL1.out]
        have HMC := hide (fun w => HML.out s (by rw [HX.out]; exact c91) HBB.out (by omega) (by omega) w)
        subst c91
        clear e2 e3 c34
        go_wp2_with fail
        refine (HMC.out _).mono ?_
        rintro e w2 ⟨pv, t, rfl, u2, htl, hcase⟩
        have HU3 : Hid (Up w w2) := HU2.out.trans u2
        have hsz := HU2.out.size
        rcases hcase with ⟨hnone, rfl⟩ | ⟨v, b, hsome, rfl, hb, hok⟩
        · have HC := hide hnone
          clear hnone u2
          go_wp2
          go_ret2
          exact ⟨_, t, rfl, HU3.out, by omega, .inl ⟨by rw [HE.out, HC.out], rfl⟩⟩
        · have HC := hide hsome
          have HOK := hide hok
          have HB2 := hide hb
          clear hsome hok u2 hb
          go_wp2
          go_ret2
          exact ⟨_, t, rfl, HU3.out, by omega, .inr ⟨v, b, by rw [HE.out, HC.out], rfl, ⟨Nat.le_trans hsz HB2.out.1, HB2.out.2⟩, Js.Ok.of (fun _ _ => rfl) (fun b hb => ⟨Nat.le_trans hsz hb.1, hb.2⟩) HOK.out⟩⟩
      have b91 := beq_eq_false_iff_ne.2 c91
      by_cases c123 : x = 123
      · have HE : Hid (Js.rd n l = Js.lstD 123 125 true .obj n s) := by
          show _ = _
          rw [HRD.out, if_neg (by rw [HX.out]; exact c91), if_pos (by rw [HX.out]; exact c123), HL2.out]
        have HMC := hide (fun w => HMO.out s (by rw [HX.out]; exact c123) HBB.out (by omega) (by omega) w)
        subst c123
        clear e2 e3 c34 c91
        go_wp2_with fail
        refine (HMC.out _).mono ?_
        rintro e w2 ⟨pv, t, rfl, u2, htl, hcase⟩
        have HU3 : Hid (Up w w2) := HU2.out.trans u2
        have hsz := HU2.out.size
        rcases hcase with ⟨hnone, rfl⟩ | ⟨v, b, hsome, rfl, hb, hok⟩
        · have HC := hide hnone
          clear hnone u2
          go_wp2
          go_ret2
          exact ⟨_, t, rfl, HU3.out, by omega, .inl ⟨by rw [HE.out, HC.out], rfl⟩⟩
        · have HC := hide hsome
          have HOK := hide hok
          have HB2 := hide hb
          clear hsome hok u2 hb
          go_wp2
          go_ret2
          exact ⟨_, t, rfl, HU3.out, by omega, .inr ⟨v, b, by rw [HE.out, HC.out], rfl, ⟨Nat.le_trans hsz HB2.out.1, HB2.out.2⟩, Js.Ok.of (fun _ _ => rfl) (fun b hb => ⟨Nat.le_trans hsz hb.1, hb.2⟩) HOK.out⟩⟩
      have b123 := beq_eq_false_iff_ne.2 c123
      obtain ⟨m, hm⟩ : ∃ m, m = Tx.num false s := ⟨_, rfl⟩
      have hml : m ≤ s.length := by rw [hm]; exact Tx.num_le false s
      have HE : Hid (Js.rd n l = if m = 0 then none else some (.num (s.take m), s.drop m)) := by
        show _ = _
        rw [HRD.out, if_neg (by rw [HX.out]; exact c91), if_neg (by rw [HX.out]; exact c123), HLF.out, if_neg (by rw [HX.out]; exact c34), ← hm]
      have HNU := hide (fun w => Number_any s false w (by omega))
      rw [← hm] at HNU
      have HSH : Hid (m ≠ 0 → Du.Shape (s.take m)) := fun h => by
        rw [hm]
        exact Du.num_shape (by omega)
      clear hm c34 c91 c123
      by_cases hm0 : m = 0
      · subst hm0
        clear e2 e3
        go_wp2_with (go_at_call 99; refine (HNU.out _).mono ?_; rintro e w2 ⟨rfl, hw⟩; replace hw := hw.symm; subst hw)
        go_ret2
        exact ⟨_, s, rfl, HU2.out, by omega, .inl ⟨by rw [HE.out]; rfl, rfl⟩⟩
      · have bm : ((m : Int) == 0) = false := beq_eq_false_iff_ne.2 (by omega)
        rw [if_neg hm0] at HE
        replace HSH := hide (HSH.out hm0)
        have hx2 : (bs s).extract m s.length = bs (s.drop m) := e2 m
        have hx3 : (bs s).extract 0 m = bs (s.take m) := e3 m
        have htk : (s.take m).length ≤ 6000 := by rw [List.length_take]; omega
        clear hm0 e2 e3
        go_wp2_with (go_at_call 99; refine (HNU.out _).mono ?_; rintro e w2 ⟨rfl, hw⟩; replace hw := hw.symm; subst hw)
        go_region_with (fail)
        all_goals
          go_wp2
          go_ret2
          exact ⟨_, s.drop m, rfl, (HU.out.drewN _).alloc _, by rw [List.length_drop]; omega, .inr ⟨.num (s.take m), wA.heap.size, HE.out, rfl, ok_num (wB := wA.drewN _) (HU.out.drewN _) HSH.out htk⟩⟩

theorem dRead_any : ∀ n : Nat, n ≤ 6000 → DReadAt n
  | 0, _ => by
    refine dRead_of 0 (by omega) (fun l h1 h2 h3 h4 w => ?_) (fun l h1 h2 h3 h4 w => ?_)
    · have := Tx.lt_of_at (l := l) (i := 0) (by omega)
      omega
    · have := Tx.lt_of_at (l := l) (i := 0) (by omega)
      omega
  | n + 1, hn => by
    have ih := dRead_any n (by omega)
    exact dRead_of (n + 1) hn (fun l h1 h2 h3 h4 w => many_list n (by omega) ih l h1 h2 h3 h4 w) (fun l h1 h2 h3 h4 w => many_object n (by omega) ih l h1 h2 h3 h4 w)
end Go.Proofs.YtoanonklmmbhgaaGreatDoor

/- LISTS THAT THE DOCUMENT READS, as they grow. -/
namespace Go.Proofs.YtoanonklmmbhgaaGreatDoor
set_option linter.all false
open Go.RowKit Go.Deep

theorem el_multi : Elem Tryz.prog 43 79 (.slice none 0 0) 1 24 := ⟨by kernel_rfl, info_rings, rfl, by omega, by omega⟩

theorem SD.keep {w w' : World} {b : Nat} {l : List UInt8} {bad wide : Bool} {base : Nat} {e : TypeId} {size : Nat} {v : Value} {n : Nat} {xs : List Value} (h : SD w b l bad wide) (ho : w.ownsRow base e size v n xs) (he : e ≠ 85) (hg : w.grownBy w' v.ownBlock) : SD w' b l bad wide :=
  VRow.grown h hg (own_row_ne ho h he)
theorem SD.alloc {w : World} {b : Nat} {l : List UInt8} {bad wide : Bool} (h : SD w b l bad wide) (o : Obj) : SD (w.alloc o) b l bad wide := VRow.alloc h o

/-- A list of the document's that is being read: rings. -/
structure Q1 (w wr : World) (b : Nat) (v : Value) (r : Ring) (l : List UInt8) (bad wide : Bool) : Prop where
  own : wr.ownsRow w.heap.size 91 2 v r.length (flat r)
  sd : SD wr b l bad wide
  fr : Fr (· = b) w wr
  len : r.length ≤ 6001
  rest : l.length ≤ 6000
  sum : bad = false → r.length + l.length ≤ 6000

theorem Q1.step {w wr w4 w5 : World} {b : Nat} {v : Value} {r : Ring} {l l4 : List UInt8} {wide b4 o4 : Bool} {x y : Int} {g cap : Nat} (h : Q1 w wr b v r l false wide) (h4 : SD w4 b l4 b4 o4) (u : Fr (· = b) wr w4) (hs : b4 = false → l4.length + 1 ≤ l.length) (hl4 : l4.length ≤ 6000)
    (hown : w5.ownsRow w.heap.size 91 2 (.slice (some ⟨g, 0, none⟩) (r.length + 1) cap) (r.length + 1) (flat r ++ [.int .i64 x, .int .i64 y])) (hg : (w4.alloc (.cells #[.int .i64 x, .int .i64 y] 91)).grownBy w5 v.ownBlock) :
    Q1 w w5 b (.slice (some ⟨g, 0, none⟩) (r.length + 1) cap) (r ++ [(x, y)]) l4 b4 o4 := by
  have hb := h.sd
  have o4' : w4.ownsRow w.heap.size 91 2 v r.length (flat r) := own_fr h.own u fun g hg e => own_row_ne h.own hb (by decide) (e ▸ hg)
  have oA := o4'.alloc (.cells #[.int .i64 x, .int .i64 y] 91)
  refine ⟨?_, (h4.alloc _).keep oA (by decide) hg, ((h.fr.trans u).alloc _).grown hg fun k hk => .inr (own_lt h.own hk).1, by simp; have := h.sum rfl; omega, hl4, fun e => ?_⟩
  · rw [flat_append, List.length_append]; exact hown
  · have := hs e
    have := h.sum rfl
    simp; omega

/-- Lists of lists. -/
structure Q2 (w wr : World) (b : Nat) (v : Value) (rs : List L1) (l : List UInt8) (bad wide : Bool) : Prop where
  own : wr.ownsRow w.heap.size 88 1 v rs.length (rs.map L1.v)
  sub : ∀ y ∈ rs, y.ok wr
  sd : SD wr b l bad wide
  fr : Fr (· = b) w wr
  len : rs.length ≤ 6001
  rest : l.length ≤ 6000
  sum : bad = false → rs.length + l.length ≤ 6000

theorem Q2.step {w wr w4 w5 : World} {b : Nat} {v : Value} {rs : List L1} {l l4 : List UInt8} {wide b4 o4 : Bool} {xa : Option Addr} {xn xc : Nat} {xr : Ring} {g cap : Nat} (h : Q2 w wr b v rs l false wide) (h4 : SD w4 b l4 b4 o4) (u : Fr (· = b) wr w4) (hx : L1.ok w4 ⟨.slice xa xn xc, xr⟩) (hs : b4 = false → l4.length + 1 ≤ l.length) (hl4 : l4.length ≤ 6000)
    (hown : w5.ownsRow w.heap.size 88 1 (.slice (some ⟨g, 0, none⟩) (rs.length + 1) cap) (rs.length + 1) (rs.map L1.v ++ [.slice xa xn xc])) (hg : (w4.alloc (.cells #[.slice xa xn xc] 88)).grownBy w5 v.ownBlock) :
    Q2 w w5 b (.slice (some ⟨g, 0, none⟩) (rs.length + 1) cap) (rs ++ [⟨.slice xa xn xc, xr⟩]) l4 b4 o4 := by
  have hb := h.sd
  have o4' : w4.ownsRow w.heap.size 88 1 v rs.length (rs.map L1.v) := own_fr h.own u fun g hg e => own_row_ne h.own hb (by decide) (e ▸ hg)
  have oA := o4'.alloc (.cells #[.slice xa xn xc] 88)
  have hA := (Up.refl w4).alloc (.cells #[.slice xa xn xc] 88)
  refine ⟨?_, fun y hy => ?_, (h4.alloc _).keep oA (by decide) hg, ((h.fr.trans u).alloc _).grown hg fun k hk => .inr (own_lt h.own hk).1, by simp; have := h.sum rfl; omega, hl4, fun e => ?_⟩
  · rw [List.map_append, List.length_append]; exact hown
  · rcases List.mem_append.1 hy with hy | hy
    · exact (((h.sub y hy).fr u fun b hb' e => (h.sub y hy).row_ne hb (by decide) (e ▸ hb')).up hA).grown oA (by decide) hg
    · simp at hy; subst hy
      exact (hx.up hA).grown oA (by decide) hg
  · have := hs e
    have := h.sum rfl
    simp; omega

structure Q3 (w wr : World) (b : Nat) (v : Value) (ps : List L2) (l : List UInt8) (bad wide : Bool) : Prop where
  own : wr.ownsRow w.heap.size 79 1 v ps.length (ps.map L2.v)
  sub : ∀ y ∈ ps, y.ok wr
  sd : SD wr b l bad wide
  fr : Fr (· = b) w wr
  len : ps.length ≤ 6001
  rest : l.length ≤ 6000
  sum : bad = false → ps.length + l.length ≤ 6000

theorem Q3.step {w wr w4 w5 : World} {b : Nat} {v : Value} {ps : List L2} {l l4 : List UInt8} {wide b4 o4 : Bool} {xa : Option Addr} {xn xc : Nat} {xr : List L1} {g cap : Nat} (h : Q3 w wr b v ps l false wide) (h4 : SD w4 b l4 b4 o4) (u : Fr (· = b) wr w4) (hx : L2.ok w4 ⟨.slice xa xn xc, xr⟩) (hs : b4 = false → l4.length + 1 ≤ l.length) (hl4 : l4.length ≤ 6000)
    (hown : w5.ownsRow w.heap.size 79 1 (.slice (some ⟨g, 0, none⟩) (ps.length + 1) cap) (ps.length + 1) (ps.map L2.v ++ [.slice xa xn xc])) (hg : (w4.alloc (.cells #[.slice xa xn xc] 79)).grownBy w5 v.ownBlock) :
    Q3 w w5 b (.slice (some ⟨g, 0, none⟩) (ps.length + 1) cap) (ps ++ [⟨.slice xa xn xc, xr⟩]) l4 b4 o4 := by
  have hb := h.sd
  have o4' : w4.ownsRow w.heap.size 79 1 v ps.length (ps.map L2.v) := own_fr h.own u fun g hg e => own_row_ne h.own hb (by decide) (e ▸ hg)
  have oA := o4'.alloc (.cells #[.slice xa xn xc] 79)
  have hA := (Up.refl w4).alloc (.cells #[.slice xa xn xc] 79)
  refine ⟨?_, fun y hy => ?_, (h4.alloc _).keep oA (by decide) hg, ((h.fr.trans u).alloc _).grown hg fun k hk => .inr (own_lt h.own hk).1, by simp; have := h.sum rfl; omega, hl4, fun e => ?_⟩
  · rw [List.map_append, List.length_append]; exact hown
  · rcases List.mem_append.1 hy with hy | hy
    · exact (((h.sub y hy).fr u fun b hb' e => (h.sub y hy).row_ne hb (by decide) (by decide) (e ▸ hb')).up hA).grown oA (by decide) (by decide) hg
    · simp at hy; subst hy
      exact (hx.up hA).grown oA (by decide) (by decide) hg
  · have := hs e
    have := h.sum rfl
    simp; omega

theorem Q1.start {w : World} {b : Nat} {l : List UInt8} {bad wide : Bool} (h : SD w b l bad wide) (hl : l.length ≤ 6000) : Q1 w w b (.slice none 0 0) [] l bad wide := ⟨World.ownsRow_nil _ _ _ _, h, Fr.refl _ _, by simp, hl, fun _ => by simpa using hl⟩
theorem Q2.start {w : World} {b : Nat} {l : List UInt8} {bad wide : Bool} (h : SD w b l bad wide) (hl : l.length ≤ 6000) : Q2 w w b (.slice none 0 0) [] l bad wide := ⟨World.ownsRow_nil _ _ _ _, by simp, h, Fr.refl _ _, by simp, hl, fun _ => by simpa using hl⟩
theorem Q3.start {w : World} {b : Nat} {l : List UInt8} {bad wide : Bool} (h : SD w b l bad wide) (hl : l.length ≤ 6000) : Q3 w w b (.slice none 0 0) [] l bad wide := ⟨World.ownsRow_nil _ _ _ _, by simp, h, Fr.refl _ _, by simp, hl, fun _ => by simpa using hl⟩

theorem Q1.sd' {w wr w' : World} {b : Nat} {v : Value} {r : Ring} {l l' : List UInt8} {bad wide bad' wide' : Bool} (h : Q1 w wr b v r l bad wide) (h4 : SD w' b l' bad' wide') (u : Fr (· = b) wr w') (hl : l'.length ≤ l.length) (hb : bad' = false → bad = false) : Q1 w w' b v r l' bad' wide' :=
  ⟨own_fr h.own u fun g hg e => own_row_ne h.own h.sd (by decide) (e ▸ hg), h4, h.fr.trans u, h.len, by have := h.rest; omega, fun e => by have := h.sum (hb e); omega⟩
theorem Q2.sd' {w wr w' : World} {b : Nat} {v : Value} {r : List L1} {l l' : List UInt8} {bad wide bad' wide' : Bool} (h : Q2 w wr b v r l bad wide) (h4 : SD w' b l' bad' wide') (u : Fr (· = b) wr w') (hl : l'.length ≤ l.length) (hb : bad' = false → bad = false) : Q2 w w' b v r l' bad' wide' :=
  ⟨own_fr h.own u fun g hg e => own_row_ne h.own h.sd (by decide) (e ▸ hg), fun y hy => (h.sub y hy).fr u fun b hb' e => (h.sub y hy).row_ne h.sd (by decide) (e ▸ hb'), h4, h.fr.trans u, h.len, by have := h.rest; omega, fun e => by have := h.sum (hb e); omega⟩
theorem Q3.sd' {w wr w' : World} {b : Nat} {v : Value} {r : List L2} {l l' : List UInt8} {bad wide bad' wide' : Bool} (h : Q3 w wr b v r l bad wide) (h4 : SD w' b l' bad' wide') (u : Fr (· = b) wr w') (hl : l'.length ≤ l.length) (hb : bad' = false → bad = false) : Q3 w w' b v r l' bad' wide' :=
  ⟨own_fr h.own u fun g hg e => own_row_ne h.own h.sd (by decide) (e ▸ hg), fun y hy => (h.sub y hy).fr u fun b hb' e => (h.sub y hy).row_ne h.sd (by decide) (by decide) (e ▸ hb'), h4, h.fr.trans u, h.len, by have := h.rest; omega, fun e => by have := h.sum (hb e); omega⟩

theorem Q1.step' {w wr w4 w5 : World} {b : Nat} {v : Value} {r : Ring} {l l4 : List UInt8} {bad wide b4 o4 : Bool} {x y : Int} {g cap : Nat} (h : Q1 w wr b v r l bad wide) (h6 : r.length ≤ 6000) (h4 : SD w4 b l4 b4 o4) (u : Fr (· = b) wr w4) (hs : b4 = false → r.length + 1 + l4.length ≤ 6000) (hl4 : l4.length ≤ 6000)
    (hown : w5.ownsRow w.heap.size 91 2 (.slice (some ⟨g, 0, none⟩) (r.length + 1) cap) (r.length + 1) (flat r ++ [.int .i64 x, .int .i64 y])) (hg : (w4.alloc (.cells #[.int .i64 x, .int .i64 y] 91)).grownBy w5 v.ownBlock) :
    Q1 w w5 b (.slice (some ⟨g, 0, none⟩) (r.length + 1) cap) (r ++ [(x, y)]) l4 b4 o4 := by
  have hb := h.sd
  have o4' : w4.ownsRow w.heap.size 91 2 v r.length (flat r) := own_fr h.own u fun g hg e => own_row_ne h.own hb (by decide) (e ▸ hg)
  have oA := o4'.alloc (.cells #[.int .i64 x, .int .i64 y] 91)
  refine ⟨?_, (h4.alloc _).keep oA (by decide) hg, ((h.fr.trans u).alloc _).grown hg fun k hk => .inr (own_lt h.own hk).1, by simp; omega, hl4, fun e => ?_⟩
  · rw [flat_append, List.length_append]; exact hown
  · have := hs e
    simp; omega

theorem Q2.step' {w wr w4 w5 : World} {b : Nat} {v : Value} {rs : List L1} {l l4 : List UInt8} {bad wide b4 o4 : Bool} {xa : Option Addr} {xn xc : Nat} {xr : Ring} {g cap : Nat} (h : Q2 w wr b v rs l bad wide) (h6 : rs.length ≤ 6000) (h4 : SD w4 b l4 b4 o4) (u : Fr (· = b) wr w4) (hx : L1.ok w4 ⟨.slice xa xn xc, xr⟩) (hs : b4 = false → rs.length + 1 + l4.length ≤ 6000) (hl4 : l4.length ≤ 6000)
    (hown : w5.ownsRow w.heap.size 88 1 (.slice (some ⟨g, 0, none⟩) (rs.length + 1) cap) (rs.length + 1) (rs.map L1.v ++ [.slice xa xn xc])) (hg : (w4.alloc (.cells #[.slice xa xn xc] 88)).grownBy w5 v.ownBlock) :
    Q2 w w5 b (.slice (some ⟨g, 0, none⟩) (rs.length + 1) cap) (rs ++ [⟨.slice xa xn xc, xr⟩]) l4 b4 o4 := by
  have hb := h.sd
  have o4' : w4.ownsRow w.heap.size 88 1 v rs.length (rs.map L1.v) := own_fr h.own u fun g hg e => own_row_ne h.own hb (by decide) (e ▸ hg)
  have oA := o4'.alloc (.cells #[.slice xa xn xc] 88)
  have hA := (Up.refl w4).alloc (.cells #[.slice xa xn xc] 88)
  refine ⟨?_, fun y hy => ?_, (h4.alloc _).keep oA (by decide) hg, ((h.fr.trans u).alloc _).grown hg fun k hk => .inr (own_lt h.own hk).1, by simp; omega, hl4, fun e => ?_⟩
  · rw [List.map_append, List.length_append]; exact hown
  · rcases List.mem_append.1 hy with hy | hy
    · exact (((h.sub y hy).fr u fun b hb' e => (h.sub y hy).row_ne hb (by decide) (e ▸ hb')).up hA).grown oA (by decide) hg
    · simp at hy; subst hy
      exact (hx.up hA).grown oA (by decide) hg
  · have := hs e
    simp; omega

theorem Q3.step' {w wr w4 w5 : World} {b : Nat} {v : Value} {ps : List L2} {l l4 : List UInt8} {bad wide b4 o4 : Bool} {xa : Option Addr} {xn xc : Nat} {xr : List L1} {g cap : Nat} (h : Q3 w wr b v ps l bad wide) (h6 : ps.length ≤ 6000) (h4 : SD w4 b l4 b4 o4) (u : Fr (· = b) wr w4) (hx : L2.ok w4 ⟨.slice xa xn xc, xr⟩) (hs : b4 = false → ps.length + 1 + l4.length ≤ 6000) (hl4 : l4.length ≤ 6000)
    (hown : w5.ownsRow w.heap.size 79 1 (.slice (some ⟨g, 0, none⟩) (ps.length + 1) cap) (ps.length + 1) (ps.map L2.v ++ [.slice xa xn xc])) (hg : (w4.alloc (.cells #[.slice xa xn xc] 79)).grownBy w5 v.ownBlock) :
    Q3 w w5 b (.slice (some ⟨g, 0, none⟩) (ps.length + 1) cap) (ps ++ [⟨.slice xa xn xc, xr⟩]) l4 b4 o4 := by
  have hb := h.sd
  have o4' : w4.ownsRow w.heap.size 79 1 v ps.length (ps.map L2.v) := own_fr h.own u fun g hg e => own_row_ne h.own hb (by decide) (e ▸ hg)
  have oA := o4'.alloc (.cells #[.slice xa xn xc] 79)
  have hA := (Up.refl w4).alloc (.cells #[.slice xa xn xc] 79)
  refine ⟨?_, fun y hy => ?_, (h4.alloc _).keep oA (by decide) hg, ((h.fr.trans u).alloc _).grown hg fun k hk => .inr (own_lt h.own hk).1, by simp; omega, hl4, fun e => ?_⟩
  · rw [List.map_append, List.length_append]; exact hown
  · rcases List.mem_append.1 hy with hy | hy
    · exact (((h.sub y hy).fr u fun b hb' e => (h.sub y hy).row_ne hb (by decide) (by decide) (e ▸ hb')).up hA).grown oA (by decide) (by decide) hg
    · simp at hy; subst hy
      exact (hx.up hA).grown oA (by decide) (by decide) hg
  · have := hs e
    simp; omega
end Go.Proofs.YtoanonklmmbhgaaGreatDoor

/- THE DOCUMENT's JSON: rings. -/
namespace Go.Proofs.YtoanonklmmbhgaaGreatDoor
set_option linter.all false
open Go.RowKit Go.Deep

namespace Js
def kd : V → Int
  | .word => 0
  | .num _ => 1
  | .txt _ => 2
  | .lst _ => 3
  | .obj _ => 4
  | _ => 5
theorem Ok.node {K : Nat → Prop} {w : World} {v : V} {p : Nat} (h : Ok K w v [p]) (hi : isVal v = true) : K p ∧ ∃ s cv nv la ln lc, VRow w p 98 (vcells (kd v) s cv nv (.slice la ln lc) v.deep) := by
  cases v with
  | word => obtain ⟨b, h1, h2, h3⟩ := h; cases h1; exact ⟨h2, _, _, _, _, _, _, h3⟩
  | num s => obtain ⟨b, h1, h2, h3, h4⟩ := h; cases h1; exact ⟨h2, _, _, _, _, _, _, h3⟩
  | txt c => obtain ⟨b, cv, h1, h2, h3, h4⟩ := h; cases h1; exact ⟨h2, _, _, _, _, _, _, h3⟩
  | nil => cases hi
  | cons n a r => cases hi
  | lst m =>
    obtain ⟨b, lv, qs, h1, h2, h3, h4, h5⟩ := h; cases h1
    obtain ⟨a, n, c, rfl⟩ : ∃ a n c, lv = .slice a n c := own_shape h4.ownL
    exact ⟨h2, _, _, _, _, _, _, h3⟩
  | obj m =>
    obtain ⟨b, nv, lv, ys, qs, h1, h2, h3, h4, h5⟩ := h; cases h1
    obtain ⟨a, n, c, rfl⟩ : ∃ a n c, lv = .slice a n c := own_shape h4.ownL
    exact ⟨h2, _, _, _, _, _, _, h3⟩
theorem Ok.lst_ {K : Nat → Prop} {w : World} {m : V} {p : Nat} (h : Ok K w (.lst m) [p]) : K p ∧ ∃ acc la lc qs, m = ofM acc ∧ qs.length = acc.length ∧ qs.length ≤ 6000 ∧ VRow w p 98 (vcells 3 [] nilS nilS (.slice la qs.length lc) ((m.deep : Int) + 1)) ∧ w.ownsRow 0 92 1 (.slice la qs.length lc) qs.length (qs.map ptr) ∧ Ok K w (ofM acc) qs := by
  obtain ⟨b, lv, qs, h1, h2, h3, h4, h5, acc, rfl⟩ := h
  cases h1
  obtain ⟨a, c, rfl⟩ := own_len h4.ownL
  exact ⟨h2, acc, a, c, qs, rfl, (Ok.kids h5).1, h4.len, h3, h4.ownL, h5⟩
theorem Ok.num_ {K : Nat → Prop} {w : World} {s : List UInt8} {p : Nat} (h : Ok K w (.num s) [p]) : VRow w p 98 (vcells 1 s nilS nilS nilS 0) ∧ Du.Shape s ∧ s.length ≤ 6000 := by
  obtain ⟨b, h1, h2, h3, h4, h5⟩ := h
  cases h1
  exact ⟨h3, h4, h5⟩
theorem cPt_not {v : V} (h : kd v ≠ 3) (o : Bool) : cPt v o = none := by
  cases v <;> first | rfl | exact absurd rfl h
theorem cList_not {β : Type} (c : V → Bool → Option (β × Bool)) {v : V} (h : kd v ≠ 3) (o : Bool) : cList c v o = none := by
  cases v <;> first | rfl | exact absurd rfl h
theorem cNum_not {v : V} (h : kd v ≠ 1) (o : Bool) : cNum v o = none := by
  cases v <;> first | rfl | exact absurd rfl h
theorem kd_lst {v : V} (h : kd v = 3) : ∃ m, v = .lst m := by
  cases v <;> first | exact ⟨_, rfl⟩ | cases h
theorem kd_num {v : V} (h : kd v = 1) : ∃ s, v = .num s := by
  cases v <;> first | exact ⟨_, rfl⟩ | cases h
theorem cPt_len {acc : List (List Int × V)} (h : acc.length ≠ 2) (o : Bool) : cPt (.lst (ofM acc)) o = none := by
  match acc with
  | [] => rfl
  | [a] => rfl
  | [a, b] => exact absurd rfl h
  | a :: b :: c :: r => rfl
theorem cPt_two (a b : List Int × V) (o : Bool) : cPt (.lst (ofM [a, b])) o = (cNum a.2 o).bind fun x => (cNum b.2 x.2).map fun y => ((x.1, y.1), y.2) := rfl
def preS {β : Type} (r : List β) (x : Option (List β × Bool)) : Option (List β × Bool) := x.map fun y => (r ++ y.1, y.2)
theorem mapS_step {α β : Type} {c : α → Bool → Option (β × Bool)} {acc : List α} {i : Nat} {x : α} {o : Bool} {r : List β} (h : acc[i]? = some x) : preS r (mapS c (acc.drop i) o) = (c x o).bind fun y => preS (r ++ [y.1]) (mapS c (acc.drop (i + 1)) y.2) := by
  have hi : i < acc.length := (List.getElem?_eq_some_iff.1 h).1
  have hx : acc[i] = x := (List.getElem?_eq_some_iff.1 h).2
  rw [List.drop_eq_getElem_cons hi, hx]
  simp only [mapS, preS]
  cases c x o with
  | none => rfl
  | some y =>
    simp only [Option.bind_some, Option.map_map]
    congr 1
    funext z
    simp
theorem mapS_end {α β : Type} {c : α → Bool → Option (β × Bool)} {acc : List α} {o : Bool} {r : List β} : preS r (mapS c (acc.drop acc.length) o) = some (r, o) := by
  simp [List.drop_length, mapS, preS]
end Js

/-- What is older than w, but for one block. -/
def KT (sb : Nat) (w : World) (b : Nat) : Prop := b < w.heap.size ∧ b ≠ sb
theorem Js.Ok.fr {sb : Nat} {w w' : World} {v : Js.V} {ps : List Nat} (h : Js.Ok (KT sb w) w v ps) (u : Fr (· = sb) w w') : Js.Ok (KT sb w) w' v ps := Js.Ok.of (fun b hb => u.block b hb.1 hb.2) (fun _ h => h) h
theorem Js.Ok.kt {sb : Nat} {w w' : World} {v : Js.V} {ps : List Nat} (h : Js.Ok (KT sb w) w' v ps) (hs : w.heap.size ≤ w'.heap.size) : Js.Ok (KT sb w') w' v ps := Js.Ok.of (fun _ _ => rfl) (fun b hb => ⟨by have := hb.1; omega, hb.2⟩) h

def DRgPost (v : Js.V) (wide : Bool) (sb : Nat) (w : World) (e : Ending) (w' : World) : Prop :=
  ∃ (x : L1) (bad' wide' : Bool), e = .returned x.v ∧ x.ok w' ∧ SD w' sb [] bad' wide' ∧ Fr (· = sb) w w' ∧ Js.cRing v wide = (if bad' = true then none else some (x.r, wide'))

set_option maxRecDepth 100000 in
set_option maxHeartbeats 16000000 in
theorem dRing_any (v : Js.V) (hi : Js.isVal v = true) (b sb : Nat) (wide : Bool) (w : World) (hs : SD w sb [] false wide) (hv : Js.Ok (KT sb w) w v [b]) :
    Calls Tryz.prog 100 #[.pointer (some ⟨sb, 0, none⟩), .pointer (some ⟨b, 0, none⟩)] w (DRgPost v wide sb w) := by
  by_cases hk : Js.kd v = 3
  · obtain ⟨m, rfl⟩ := Js.kd_lst hk
    obtain ⟨hb, acc, la, lc, qs, rfl, hql, hq6, hrow, hown, hkids⟩ := hv.lst_
    have HC : Hid (Js.cRing (.lst (Js.ofM acc)) wide = Js.mapS (fun x o => Js.cPt x.2 o) acc wide) := Js.mapV_ofM Js.cPt acc wide
    obtain ⟨T, hT⟩ : ∃ T, T = Js.mapS (fun (x : List Int × Js.V) o => Js.cPt x.2 o) acc wide := ⟨_, rfl⟩
    rw [← hT] at HC
    have HTC : Hid (Js.cRing (.lst (Js.ofM acc)) wide = T) := HC.out
    have HT0 : Hid (T = Js.preS [] (Js.mapS (fun (x : List Int × Js.V) o => Js.cPt x.2 o) (acc.drop 0) wide)) := by
      show _ = _
      rw [hT, List.drop_zero]
      cases Js.mapS (fun (x : List Int × Js.V) o => Js.cPt x.2 o) acc wide <;> rfl
    have HQL := hide hql
    have HKIDS := hide hkids
    have HROW := hide hrow
    have HOWN := hide hown
    have r0 := hrow.cell (i := 0) rfl
    obtain ⟨c0, c1, c2, f0, f1, f2⟩ := hs.facts
    have HS := hide hs
    have hne : b ≠ sb := hb.2
    have hne2 : sb ≠ b := fun e => hne e.symm
    obtain ⟨w1, hw1⟩ : ∃ W, W = w.setCell ⟨sb, 1, none⟩ (.bool false) := ⟨_, rfl⟩
    have HF1 : Hid (Fr (· = sb) w w1) := by rw [hw1]; exact (Fr.refl (· = sb) _).setCell (p := ⟨sb, 1, none⟩) rfl _
    have HS1 : Hid (SD w1 sb [] false wide) := by rw [hw1]; exact hs.bad false
    have HQ : Hid (Q1 w1 w1 sb (.slice none 0 0) [] [] false wide) := Q1.start HS1.out (by simp)
    have HW1 := hide hw1
    clear hk hrow hv hb hs c0 c2 f0 f2 hql hkids hown hT hw1
    go_enter Tryz.func100, Tryz.ntmps100
    go_wp2
    rw [← HW1.out]
    go_loopw [5, 6] (fun lv iv wr => ∃ (i : Nat) (r : Ring) (o : Bool) (u : Value), u = lv ∧ iv = .int .i64 i ∧ i ≤ qs.length ∧ r.length = i ∧ Hid (Q1 w1 wr sb u r [] false o) ∧ Hid (T = Js.preS r (Js.mapS (fun (x : List Int × Js.V) o => Js.cPt x.2 o) (acc.drop i) o))) (fun _ iv _ => qs.length - (intOf iv).toNat)
    case atStart => exact ⟨0, [], wide, _, rfl, rfl, Nat.zero_le _, rfl, HQ, HT0⟩
    case round =>
      obtain ⟨wo, hw⟩ : ∃ x, x = wr := ⟨_, rfl⟩
      subst hw
      obtain ⟨i, r, o, u, rfl, rfl, hil, hri, HI, HT⟩ := hrel
      obtain ⟨ua, un, uc, rfl⟩ : ∃ a n c, u = .slice a n c := own_shape HI.out.own
      obtain rfl : un = r.length := by obtain ⟨a, c, e⟩ := own_len HI.out.own; cases e; rfl
      have hF : Fr (· = sb) w wo := HF1.out.trans HI.out.fr
      have hrowr := hF.row HROW.out hne
      have hownr : wo.ownsRow 0 92 1 (.slice la qs.length lc) qs.length (qs.map Js.ptr) := own_fr HOWN.out hF fun g hg e => own_row_ne HOWN.out HS.out (by decide) (e ▸ hg)
      have hkidr := HKIDS.out.fr hF
      have q4 := hrowr.cell (i := 4) rfl
      have s1 := HI.out.sd.c1
      have s2 := HI.out.sd.c2
      have g1 := HI.out.sd.f 1
      have g2 := HI.out.sd.f 2
      have HRI := hide hri
      clear hri
      by_cases hlt : i < qs.length
      · obtain ⟨p, hp⟩ : ∃ p, qs[i]? = some p := ⟨qs[i], List.getElem?_eq_getElem _⟩
        obtain ⟨⟨xn, xv⟩, hx, hxok, hxv⟩ := (Js.Ok.kids hkidr).2 i p hp
        obtain ⟨g, cap, e, hcell⟩ := own_cell hownr (by omega)
        cases e
        have hci : wo.cell? ⟨g, i, none⟩ = some (.pointer (some ⟨p, 0, none⟩)) := hcell i _ (by simp [hp, Js.ptr])
        have HST := hide (Js.mapS_step (c := fun (x : List Int × Js.V) o => Js.cPt x.2 o) (r := r) (o := o) hx)
        have HTS : Hid (T = (Js.cPt xv o).bind fun y => Js.preS (r ++ [y.1]) (Js.mapS (fun (x : List Int × Js.V) o => Js.cPt x.2 o) (acc.drop (i + 1)) y.2)) := HT.out.trans HST.out
        clear hp hx hcell HT HST
        by_cases hk2 : Js.kd xv = 3
        · obtain ⟨m2, rfl⟩ := Js.kd_lst hk2
          obtain ⟨hpK, acc2, la2, lc2, qs2, rfl, hql2, hq62, hrow2, hown2, hkids2⟩ := hxok.lst_
          have y0 := hrow2.cell (i := 0) rfl
          have y4 := hrow2.cell (i := 4) rfl
          clear hk2 hxv
          by_cases h2 : qs2.length = 2
          · have ha2 : acc2.length = 2 := by omega
            obtain ⟨p0, p1, rfl⟩ : ∃ a b, qs2 = [a, b] := by
              match qs2, h2 with
              | [a, b], _ => exact ⟨a, b, rfl⟩
            obtain ⟨⟨n0, v0⟩, ⟨n1, v1⟩, rfl⟩ : ∃ a b, acc2 = [a, b] := by
              match acc2, ha2 with
              | [a, b], _ => exact ⟨a, b, rfl⟩
            obtain ⟨x0, hx0, hok0, hiv0⟩ := (Js.Ok.kids hkids2).2 0 p0 rfl
            obtain ⟨x1, hx1, hok1, hiv1⟩ := (Js.Ok.kids hkids2).2 1 p1 rfl
            simp only [List.getElem?_cons_zero, List.getElem?_cons_succ, Option.some.injEq] at hx0 hx1
            subst hx0 hx1
            obtain ⟨g2', cap2, e, hcell2⟩ := own_cell hown2 (by simp)
            cases e
            have z0 : wo.cell? ⟨g2', 0, none⟩ = some (.pointer (some ⟨p0, 0, none⟩)) := hcell2 0 _ rfl
            have z1 : wo.cell? ⟨g2', 1, none⟩ = some (.pointer (some ⟨p1, 0, none⟩)) := hcell2 1 _ rfl
            have HC2 := hide (Js.cPt_two (n0, v0) (n1, v1) o)
            clear hcell2 hxok hkids2 hown2 hrow2 hkidr hownr hrowr
            have hll : [p0, p1].length = 2 := rfl
            by_cases hk0 : Js.kd v0 = 1
            · obtain ⟨s0, rfl⟩ := Js.kd_num hk0
              obtain ⟨hrp0, hsh0, hsl0⟩ := hok0.num_
              have a0 := hrp0.cell (i := 0) rfl
              have a1 := hrp0.cell (i := 1) rfl
              clear hrp0 hk0 hiv0 hok0
              by_cases hk1 : Js.kd v1 = 1
              · obtain ⟨s1', rfl⟩ := Js.kd_num hk1
                obtain ⟨hrp1, hsh1, hsl1⟩ := hok1.num_
                have b0 := hrp1.cell (i := 0) rfl
                have b1 := hrp1.cell (i := 1) rfl
                clear hrp1 hk1 hiv1 hok1
                have HU0 := hide (fun w => dUnits_shape s0 hsh0 hsl0 w)
                have HU1 := hide (fun w => dUnits_shape s1' hsh1 hsl1 w)
                unfold Hid at HU0 HU1
                rw [Wt.unitsV_eq] at HU0 HU1
                obtain ⟨X, hX⟩ : ∃ x, x = Wt.cv s0 := ⟨_, rfl⟩
                obtain ⟨Y, hY⟩ : ∃ x, x = Wt.cv s1' := ⟨_, rfl⟩
                obtain ⟨N0, hN0⟩ : ∃ x, x = (Du.units s0).isNone := ⟨_, rfl⟩
                obtain ⟨N1, hN1⟩ : ∃ x, x = (Du.units s1').isNone := ⟨_, rfl⟩
                rw [← hX, ← hN0] at HU0
                rw [← hY, ← hN1] at HU1
                have HTN : Hid (T = Js.preS (r ++ [(X, Y)]) (Js.mapS (fun (x : List Int × Js.V) o => Js.cPt x.2 o) (acc.drop (i + 1)) ((o || N0) || N1))) := by
                  show _ = _
                  rw [HTS.out, HC2.out, hX, hY, hN0, hN1]
                  rfl
                replace HU0 := hide HU0
                replace HU1 := hide HU1
                clear hX hY hN0 hN1 HTS HC2 hsh0 hsh1
                have hr6 : r.length + 1 ≤ 6000 := by rw [HRI.out]; omega
                cases o <;> cases N0 <;> cases N1
                all_goals
                  go_wp2_with fail
                  refine (HU0.out _).mono ?_
                  rintro e w2 ⟨rfl, u2⟩
                  have y42 := u2.cell y4
                  have z12 := u2.cell z1
                  have b12 := u2.cell b1
                  have HU2 := hide u2
                  clear u2
                  go_wp2_with fail
                  refine (HU1.out _).mono ?_
                  rintro e w3 ⟨rfl, u3⟩
                  have hsd3 : SD w3 sb [] false _ := VRow.of_block HI.out.sd ((HU2.out.trans u3).block _ (VRow.lt HI.out.sd))
                  have s23 := hsd3.c2
                  have g23 := hsd3.f 2
                  have HSD3 := hide hsd3
                  have HF3 : Hid (Fr (· = sb) wo w3) := Fr.of_up (HU2.out.trans u3)
                  have HO3 : Hid (w3.ownsRow w1.heap.size 91 2 (.slice ua r.length uc) r.length (flat r)) := own_fr HI.out.own HF3.out fun g hg e => own_row_ne HI.out.own HI.out.sd (by decide) (e ▸ hg)
                  have HSB : Hid ((Value.slice ua r.length uc).ownBlock ≠ some sb) := own_row_ne HO3.out HSD3.out (by decide)
                  have hrb : Hid (r.length ≤ 1073741824) := by show _ ≤ _; omega
                  have HNW : Hid (∀ z : Bool, ((w3.setCell ⟨sb, 2, none⟩ (.bool z)).alloc (.cells #[.int .i64 X, .int .i64 Y] 91)).heap[w3.heap.size]? = some (.cells #[.int .i64 X, .int .i64 Y] 91)) := by
                    intro z
                    have := heap_alloc_new (w3.setCell ⟨sb, 2, none⟩ (.bool z)) (.cells #[.int .i64 X, .int .i64 Y] 91)
                    simpa using this
                  have hsz := hide (HI.out.fr.trans HF3.out).size
                  clear u3 hsd3 y42 z12 b12 y4 z1 b1 a0 a1 b0 z0 y0 hci q4 s1 s2 g1 g2
                  go_wp2_with (at_builtin; refine wpList_app el_pt rfl (.tmp 124) (.tmp 128) rfl w1.heap.size _ _ _ (by rfl) ((own_set (a := ⟨sb, 2, none⟩) HO3.out HSB.out _).alloc _) w3.heap.size [.int .i64 X, .int .i64 Y] (by rfl) rfl (HNW.out _) (by intro u hu; simp at hu; rcases hu with rfl | rfl <;> rfl) hrb.out (by have := hsz.out; simp at this ⊢; omega) ?_; intro g cap w5 hown5 hg5 hat5 hlt5; have hq5 := hide (HI.out.step' (by omega) (HSD3.out.wide _) (HF3.out.setCell (p := ⟨sb, 2, none⟩) rfl _) (fun _ => by simp; omega) (by simp) hown5 hg5); clear hat5 hlt5 hown5 hg5)
                  go_roundw
                  case rel => exact ⟨i + 1, r ++ [(X, Y)], _, _, rfl, by go_num, by omega, by rw [List.length_append, HRI.out]; rfl, hq5, HTN.out⟩
                  case measure => simp [intOf]; omega
              · have HE : Hid (T = none) := by
                  show _ = _
                  rw [HTS.out, HC2.out]
                  have hz : ∀ o', Js.cNum v1 o' = none := Js.cNum_not hk1
                  cases Js.cNum (n0, Js.V.num s0).snd o <;> simp [hz]
                obtain ⟨hKp1, sx, cvx, nvx, lax, lnx, lcx, hrp1⟩ := hok1.node hiv1
                obtain ⟨k1, hk1e⟩ : ∃ k, k = Js.kd v1 := ⟨_, rfl⟩
                rw [← hk1e] at hrp1 hk1
                have b0 := hrp1.cell (i := 0) rfl
                have bk1 : (k1 != 1) = true := bne_iff_ne.2 hk1
                clear hk1 hk1e hrp1 hok1 HTS HC2
                go_wp2
                go_ret
                exact ⟨⟨.slice ua r.length uc, r⟩, true, o, rfl, own_base (own_fr HI.out.own ((Fr.refl (· = sb) _).setCell (p := ⟨sb, 1, none⟩) rfl _) fun g hg e => own_row_ne HI.out.own HI.out.sd (by decide) (e ▸ hg)) (Nat.zero_le _), HI.out.sd.bad true, (HF1.out.trans HI.out.fr).setCell (p := ⟨sb, 1, none⟩) rfl _, by rw [HTC.out, HE.out]; rfl⟩
            · have HE : Hid (T = none) := by
                show _ = _
                rw [HTS.out, HC2.out, Js.cNum_not hk0]
                rfl
              obtain ⟨hKp0, sx, cvx, nvx, lax, lnx, lcx, hrp0⟩ := hok0.node hiv0
              obtain ⟨k0, hk0e⟩ : ∃ k, k = Js.kd v0 := ⟨_, rfl⟩
              rw [← hk0e] at hrp0 hk0
              have b0 := hrp0.cell (i := 0) rfl
              have bk0 : (k0 != 1) = true := bne_iff_ne.2 hk0
              clear hk0 hk0e hrp0 hok0 hok1 HTS HC2
              go_wp2
              go_ret
              exact ⟨⟨.slice ua r.length uc, r⟩, true, o, rfl, own_base (own_fr HI.out.own ((Fr.refl (· = sb) _).setCell (p := ⟨sb, 1, none⟩) rfl _) fun g hg e => own_row_ne HI.out.own HI.out.sd (by decide) (e ▸ hg)) (Nat.zero_le _), HI.out.sd.bad true, (HF1.out.trans HI.out.fr).setCell (p := ⟨sb, 1, none⟩) rfl _, by rw [HTC.out, HE.out]; rfl⟩
          · have HE : Hid (T = none) := by
              show _ = _
              rw [HTS.out, Js.cPt_len (by omega)]
              rfl
            have hln2 : ((qs2.length : Int) != 2) = true := bne_iff_ne.2 (by omega)
            clear hkids2 hown2 hrow2 hxok h2 HTS hkidr hownr hrowr hql2
            go_wp2
            go_ret
            exact ⟨⟨.slice ua r.length uc, r⟩, true, o, rfl, own_base (own_fr HI.out.own ((Fr.refl (· = sb) _).setCell (p := ⟨sb, 1, none⟩) rfl _) fun g hg e => own_row_ne HI.out.own HI.out.sd (by decide) (e ▸ hg)) (Nat.zero_le _), HI.out.sd.bad true, (HF1.out.trans HI.out.fr).setCell (p := ⟨sb, 1, none⟩) rfl _, by rw [HTC.out, HE.out]; rfl⟩
        · have HE : Hid (T = none) := by
            show _ = _
            rw [HTS.out, Js.cPt_not hk2]
            rfl
          obtain ⟨hKp, sx, cvx, nvx, lax, lnx, lcx, hrp⟩ := hxok.node hxv
          obtain ⟨kx, hkx⟩ : ∃ k, k = Js.kd xv := ⟨_, rfl⟩
          rw [← hkx] at hrp hk2
          have b0 := hrp.cell (i := 0) rfl
          have bkx : (kx != 3) = true := bne_iff_ne.2 hk2
          clear hk2 hkx hrp hxok HTS hkidr hownr hrowr
          go_wp2
          go_ret
          exact ⟨⟨.slice ua r.length uc, r⟩, true, o, rfl, own_base (own_fr HI.out.own ((Fr.refl (· = sb) _).setCell (p := ⟨sb, 1, none⟩) rfl _) fun g hg e => own_row_ne HI.out.own HI.out.sd (by decide) (e ▸ hg)) (Nat.zero_le _), HI.out.sd.bad true, (HF1.out.trans HI.out.fr).setCell (p := ⟨sb, 1, none⟩) rfl _, by rw [HTC.out, HE.out]; rfl⟩
      · have HE : Hid (T = some (r, o)) := by
          have hia : i = acc.length := by rw [← HQL.out]; omega
          have h := HT.out
          rw [hia, Js.mapS_end] at h
          exact h
        clear hkidr hownr hrowr HT
        go_wp2
        go_ret
        exact ⟨⟨.slice ua r.length uc, r⟩, false, o, rfl, own_base HI.out.own (Nat.zero_le _), HI.out.sd, HF1.out.trans HI.out.fr, by rw [HTC.out, HE.out]; rfl⟩
  · obtain ⟨hb, s, cv, nv, la, ln, lc, hrow⟩ := hv.node hi
    have HE := hide (Js.cList_not Js.cPt hk wide)
    have hb3 : (Js.kd v != 3) = true := bne_iff_ne.2 hk
    obtain ⟨kv, hkv⟩ : ∃ k, k = Js.kd v := ⟨_, rfl⟩
    rw [← hkv] at hrow hb3
    have r0 := hrow.cell (i := 0) rfl
    have r4 := hrow.cell (i := 4) rfl
    obtain ⟨c0, c1, c2, f0, f1, f2⟩ := hs.facts
    have HS := hide hs
    have hne : b ≠ sb := hb.2
    have hne2 : sb ≠ b := fun e => hne e.symm
    clear hk hkv hrow hv hb hs c0 c2 f0 f2
    go_enter Tryz.func100, Tryz.ntmps100
    go_wp2
    go_loopw [5, 6] (fun lv iv wr => lv = .slice none 0 0 ∧ iv = .int .i64 0 ∧ wr = w.setCell ⟨sb, 1, none⟩ (.bool true)) (fun _ _ _ => 0)
    case atStart => exact ⟨rfl, rfl, rfl⟩
    case round =>
      obtain ⟨rfl, rfl, rfl⟩ := hrel
      by_cases h0 : 0 < ln
      · go_wp2
        go_ret
        exact ⟨⟨.slice none 0 0, []⟩, true, wide, rfl, World.ownsRow_nil _ _ _ _, HS.out.bad true, (Fr.refl (· = sb) _).setCell (p := ⟨sb, 1, none⟩) rfl _, HE.out⟩
      · go_wp2
        go_ret
        exact ⟨⟨.slice none 0 0, []⟩, true, wide, rfl, World.ownsRow_nil _ _ _ _, HS.out.bad true, (Fr.refl (· = sb) _).setCell (p := ⟨sb, 1, none⟩) rfl _, HE.out⟩
end Go.Proofs.YtoanonklmmbhgaaGreatDoor
