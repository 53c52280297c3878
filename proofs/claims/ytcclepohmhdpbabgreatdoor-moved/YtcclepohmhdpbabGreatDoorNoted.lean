import Derived.Test.YtcclepohmhdpbabGreatDoorPnA
import Derived.Deep.DeepCutAuto
import Derived.Test.YtcclepohmhdpbabGreatDoorBdx
import Derived.Laws.Bits64b
import Derived.Test.YtcclepohmhdpbabGreatDoorProg
import Derived.WalkLawsBesides
import Derived.Lib.Strings
import Derived.WalkKit
import Derived.Deep.AppendLies
import Derived.Deep.RegionLaw
import Derived.Deep.RegionHeld3
import Derived.Deep.DrawnRows
namespace Go.Proofs.YtcclepohmhdpbabGreatDoor
set_option linter.all false
open Go.RowKit Go.Deep
theorem OK2.header {w : World} {d : D2} (h : OK2 w d) (hb : d.bare) {i : Nat} {x : D1} (hx : d.rs[i]? = some x) : w.cell? ⟨d.b, i, none⟩ = some (.slice (some ⟨x.b, 0, none⟩) x.r.length x.r.length) := by
  have hx' : (d.rs ++ d.s)[i]? = some x := by rw [List.getElem?_append_left (Pl.lt_of_some hx)]; exact hx
  have := h.row.cell (i := i) (v := x.v) (by simp only [List.getElem?_map, hx']; rfl)
  rw [this, D1.v, hb.2 x (Pl.mem_of_some hx)]; rfl
theorem OK3.header {w : World} {d : D3} (h : OK3 w d) (hb : d.bare) {i : Nat} {x : D2} (hx : d.ps[i]? = some x) : w.cell? ⟨d.b, i, none⟩ = some (.slice (some ⟨x.b, 0, none⟩) x.rs.length x.rs.length) := by
  have hx' : (d.ps ++ d.s)[i]? = some x := by rw [List.getElem?_append_left (Pl.lt_of_some hx)]; exact hx
  have := h.row.cell (i := i) (v := x.v) (by simp only [List.getElem?_map, hx']; rfl)
  rw [this, D2.v, (hb.2 x (Pl.mem_of_some hx)).1]; rfl
end Go.Proofs.YtcclepohmhdpbabGreatDoor

namespace Go.Proofs.YtcclepohmhdpbabGreatDoor
set_option linter.all false
open Go.RowKit Go.Deep
set_option maxRecDepth 100000 in
set_option maxHeartbeats 8000000 in
theorem ksame_any (v u : Value) (m : Mult) (w : World) (hv : Rd3 w v m) (hu : Rd3 w u m) (hb : Pl.Bd m) :
    Calls Tryz.prog 26 #[v, u] w fun e w' => e = .returned (.bool true) ∧ ∃ n, w' = w.drewN n := by
  obtain ⟨ao, cap, rfl, hm⟩ := hv
  obtain ⟨ao2, cap2, rfl, hm2⟩ := hu
  have hlen := hb.len
  have hb' := hide hb
  have HM := hide hm
  have HM2 := hide hm2
  clear hb hm hm2
  go_enter Tryz.func26, Tryz.ntmps26
  go_wp2
  go_loopw [5] (fun i wr => ∃ k : Nat, k ≤ m.length ∧ i = .int .i64 k ∧ Hid (Dr w wr)) (fun i _ => m.length - (intOf i).toNat)
  case atStart => exact ⟨0, Nat.zero_le _, rfl, Dr.refl _⟩
  case round =>
    obtain ⟨k, hk, rfl, hdr'⟩ := hrel
    by_cases hlt : k < m.length
    · obtain ⟨l, hl⟩ := Pl.some_of_lt hlt
      obtain ⟨b, x, rfl, hc, ao3, cap3, rfl, hr⟩ := HM.out k l hl
      obtain ⟨b2, y, rfl, hc2, ao4, cap4, rfl, hr2⟩ := HM2.out k l hl
      have hll := hb'.out.poly l (Pl.mem_of_some hl)
      have hrr := hide (hb'.out.ring l (Pl.mem_of_some hl))
      have hr' := hide hr
      have hr2' := hide hr2
      have gc := hdr'.out.up.cell hc
      have gc2 := hdr'.out.up.cell hc2
      have hcH := hide hc
      have hcH2 := hide hc2
      clear hl hr hr2 hc hc2
      go_wp2
      go_quiet (fail)
      go_wp2
      go_loopw [6] (fun j wr => ∃ q : Nat, q ≤ l.length ∧ j = .int .i64 q ∧ Hid (Dr w wr)) (fun j _ => l.length - (intOf j).toNat)
      case atStart => exact ⟨0, Nat.zero_le _, rfl, hdr'.out.n _⟩
      case round =>
        obtain ⟨q, hq, rfl, hdq'⟩ := hrel
        have ec := hdq'.out.up.cell hcH.out
        have ec2 := hdq'.out.up.cell hcH2.out
        clear gc gc2
        by_cases hlq : q < l.length
        · obtain ⟨r, hr1⟩ := Pl.some_of_lt hlq
          obtain ⟨b3, x3, rfl, hc3, ao5, cap5, rfl, hd3⟩ := hr'.out q r hr1
          obtain ⟨b4, x4, rfl, hc4, ao6, cap6, rfl, hd4⟩ := hr2'.out q r hr1
          have hrl := hrr.out r (Pl.mem_of_some hr1)
          have HD3 := hide hd3
          have HD4 := hide hd4
          have gc3 := hdq'.out.up.cell hc3
          have gc4 := hdq'.out.up.cell hc4
          have hcH3 := hide hc3
          have hcH4 := hide hc4
          clear hr1 hd3 hd4 hc3 hc4
          go_wp2
          go_quiet (fail)
          go_wp2
          go_loopw [7] (fun j wr => ∃ z : Nat, z ≤ r.length ∧ j = .int .i64 z ∧ Hid (Dr w wr)) (fun j _ => r.length - (intOf j).toNat)
          case atStart => exact ⟨0, Nat.zero_le _, rfl, hdq'.out.n _⟩
          case round =>
            obtain ⟨z, hz, rfl, hdz'⟩ := hrel
            clear ec ec2 gc3 gc4
            have ec := hdz'.out.up.cell hcH.out
            have ec2 := hdz'.out.up.cell hcH2.out
            have gc3 := hdz'.out.up.cell hcH3.out
            have gc4 := hdz'.out.up.cell hcH4.out
            by_cases hlz : z < r.length
            · obtain ⟨p, hp⟩ := Pl.some_of_lt hlz
              obtain ⟨b5, rfl, hx, hy⟩ := HD3.out z p hp
              obtain ⟨b6, rfl, hx2, hy2⟩ := HD4.out z p hp
              have k1 := hdz'.out.up.cell hx
              have k2 := hdz'.out.up.cell hy
              have k3 := hdz'.out.up.cell hx2
              have k4 := hdz'.out.up.cell hy2
              obtain ⟨px, py⟩ := p
              dsimp only at k1 k2 k3 k4
              clear hp hx hy hx2 hy2
              go_wp2
              refine wp_region_quiet_lit (by kernel_rfl) (by kernel_rfl) ?_
              repeat (first | go_big_quiet_step (fail) | quiet_step (fail))
              refine wpQuiet_nil ?_
              intro _ hw'
              obtain ⟨nq, hw''⟩ := hw'
              subst hw''
              go_wp2
              go_roundw
              case rel => exact ⟨z + 1, by omega, by go_num, hdz'.out.n _⟩
              case measure => simp [intOf]; omega
            · have : z = r.length := by omega
              subst this
              go_wp2
              go_roundw
              case rel => exact ⟨q + 1, by omega, by go_num, hdz'.out⟩
              case measure => simp [intOf]; omega
        · have : q = l.length := by omega
          subst this
          go_wp2
          go_roundw
          case rel => exact ⟨k + 1, by omega, by go_num, hdq'.out⟩
          case measure => simp [intOf]; omega
    · have : k = m.length := by omega
      subst this
      go_wp2
      go_ret
      exact ⟨rfl, hdr'.out⟩
set_option maxHeartbeats 2000000 in
theorem pick3_any (c : Int) (h1 : -9223372036854775808 ≤ c) (h2 : c ≤ 9223372036854775807) (w : World) :
    Calls Tryz.prog 14 #[.int .i64 c, .int .i64 3] w fun e w' => ∃ f : Int, e = .returned (.int .i64 f) ∧ (f = 0 ∨ f = 1 ∨ f = 2) ∧ w' = w := by
  by_cases h0 : c < 0
  · have e1 : wrap64 (c + 1) = c + 1 := by unfold wrap64; omega
    have e2 : wrap64 (-(c + 1)) = -(c + 1) := by unfold wrap64; omega
    obtain ⟨d, hd⟩ : ∃ d, d = -(c + 1) := ⟨_, rfl⟩
    have hd0 : 0 ≤ d := by omega
    go_enter Tryz.func14, Tryz.ntmps14
    go_wp2
    go_ret
    refine ⟨_, rfl, ?_, rfl⟩
    rw [← Int.neg_tmod, Int.tmod_eq_emod_of_nonneg (by omega)]
    omega
  · go_enter Tryz.func14, Tryz.ntmps14
    go_wp2
    go_ret
    refine ⟨_, rfl, ?_, rfl⟩
    omega
end Go.Proofs.YtcclepohmhdpbabGreatDoor

namespace Go.Proofs.YtcclepohmhdpbabGreatDoor
set_option linter.all false
namespace Bn
theorem or_low (a b i : Nat) (hb : b < 2 ^ i) : (a * 2 ^ i) ||| b = a * 2 ^ i + b := by
  rw [Nat.mul_comm]
  exact (Nat.two_pow_add_eq_or_of_lt hb a).symm
theorem u64_byte (v b : Nat) (hv : v < 72057594037927936) (hb : b < 256) : bits .or .u64 ((v : Int) * 256) (b : Int) = ((v * 256 + b : Nat) : Int) := by
  have h := bits_or_u64_nat (v * 256) b (by omega) (by omega)
  have e : ((v * 256 : Nat) : Int) = (v : Int) * 256 := by omega
  rw [e] at h
  rw [h, show 256 = 2 ^ 8 from rfl, or_low v b 8 hb]
theorem u64_mask (x : Nat) (n m : Nat) (hx : x < 18446744073709551616) (hm : m = 2 ^ n - 1) (hn : m < 18446744073709551616) : bits .and .u64 (x : Int) (m : Int) = ((x % 2 ^ n : Nat) : Int) := by
  rw [bits_and_u64_nat x m hx hn, hm, Nat.and_two_pow_sub_one_eq_mod]
theorem u64_first (x : Nat) (hx : x < 4503599627370496) : bits .or .u64 (x : Int) 4503599627370496 = ((x + 4503599627370496 : Nat) : Int) := by
  have h := bits_or_u64_nat x 4503599627370496 (by omega) (by omega)
  rw [show ((4503599627370496 : Nat) : Int) = 4503599627370496 from rfl] at h
  rw [h, Nat.or_comm]
  have := or_low 1 x 52 (by simpa using hx)
  simp only [Nat.one_mul, show 2 ^ 52 = 4503599627370496 from rfl] at this
  rw [this, Nat.add_comm]
theorem and_sign (x : Nat) (hx : x < 18446744073709551616) : x &&& 9223372036854775808 = if 9223372036854775808 ≤ x then 9223372036854775808 else 0 := by
  have h1 : (x &&& 2 ^ 63) / 2 ^ 63 = x / 2 ^ 63 &&& 2 ^ 63 / 2 ^ 63 := Nat.and_div_two_pow
  have h2 : (x &&& 2 ^ 63) % 2 ^ 63 = x % 2 ^ 63 &&& 2 ^ 63 % 2 ^ 63 := Nat.and_mod_two_pow
  rw [show (2 ^ 63 : Nat) = 9223372036854775808 from rfl] at h1 h2
  rw [show (9223372036854775808 : Nat) / 9223372036854775808 = 1 from rfl] at h1
  rw [show (9223372036854775808 : Nat) % 9223372036854775808 = 0 from rfl, Nat.and_zero] at h2
  generalize x &&& 9223372036854775808 = y at *
  by_cases hs : 9223372036854775808 ≤ x
  · rw [show x / 9223372036854775808 = 1 by omega, Nat.and_self] at h1
    rw [if_pos hs]
    omega
  · rw [show x / 9223372036854775808 = 0 by omega, Nat.zero_and] at h1
    rw [if_neg hs]
    omega
theorem u64_sign (x : Nat) (hx : x < 18446744073709551616) : bits .and .u64 (x : Int) 9223372036854775808 = if 9223372036854775808 ≤ x then 9223372036854775808 else 0 := by
  have h := bits_and_u64_nat x 9223372036854775808 hx (by omega)
  rw [show ((9223372036854775808 : Nat) : Int) = 9223372036854775808 from rfl] at h
  rw [h, and_sign x hx]
  split <;> rfl
end Bn
end Go.Proofs.YtcclepohmhdpbabGreatDoor

namespace Go.Proofs.YtcclepohmhdpbabGreatDoor
set_option linter.all false
open Go.RowKit Go.Deep
def bs (l : List UInt8) : ByteArray := ⟨l.toArray⟩
theorem bs_size (l : List UInt8) : (bs l).size = l.length := by simp [bs, ByteArray.size]
theorem bs_toList (l : List UInt8) : (bs l).toList = l := by simp [bs]
theorem bs_get (l : List UInt8) (i : Nat) (h : i < (bs l).size) : (bs l)[i]'h = l[i]'(by simpa [bs_size] using h) := by
  simp [bs, ByteArray.getElem_eq_getElem_data]
theorem bs_extract (l : List UInt8) (a b : Nat) : (bs l).extract a b = bs ((l.drop a).take (b - a)) := by
  simp [bs, Lib.extract_eq]
theorem bs_drop (l : List UInt8) (a : Nat) : (bs l).extract a l.length = bs (l.drop a) := by
  rw [bs_extract]; congr 1; apply List.take_of_length_le; simp
theorem bs_take (l : List UInt8) (b : Nat) : (bs l).extract 0 b = bs (l.take b) := by
  rw [bs_extract]; simp
theorem bs_append (a b : List UInt8) : bs a ++ bs b = bs (a ++ b) := by
  simp [bs, ByteArray.mk_append_mk]
theorem bs_of (s : ByteArray) : s = bs s.data.toList := by simp [bs]
def lenOf : Value → Nat
  | .string b => b.size
  | _ => 0
namespace Tx
def at_ (l : List UInt8) (i : Nat) : Int := match l[i]? with
  | some c => (c.toNat : Int)
  | none => -1
def blank (x : Int) : Bool := x == 32 || x == 9 || x == 10 || x == 13
def digit (x : Int) : Bool := decide (48 ≤ x) && decide (x ≤ 57)
def bare (l : List UInt8) : List UInt8 := l.dropWhile fun c => blank c.toNat
def lead (l : List UInt8) : Nat := (l.takeWhile fun c => digit c.toNat).length
theorem at_nil (i : Nat) : at_ [] i = -1 := rfl
theorem at_zero (c : UInt8) (r : List UInt8) : at_ (c :: r) 0 = c.toNat := rfl
theorem at_lt {l : List UInt8} {i : Nat} (h : i < l.length) : at_ l i = (l[i].toNat : Int) := by simp [at_, h]
theorem at_ge {l : List UInt8} {i : Nat} (h : ¬ i < l.length) : at_ l i = -1 := by simp [at_, Nat.le_of_not_lt h]
theorem lt_of_at {l : List UInt8} {i : Nat} (h : at_ l i ≠ -1) : i < l.length := by
  by_cases k : i < l.length
  · exact k
  · exact absurd (at_ge k) h
theorem at_nn {l : List UInt8} {i : Nat} (h : i < l.length) : 0 ≤ at_ l i ∧ at_ l i ≤ 255 := by
  rw [at_lt h]; have := l[i].toNat_lt; omega
theorem at_drop (l : List UInt8) (k i : Nat) : at_ (l.drop k) i = at_ l (k + i) := by simp [at_]
theorem drop_cons {l : List UInt8} {k : Nat} (h : k < l.length) : l.drop k = l[k] :: l.drop (k + 1) := List.drop_eq_getElem_cons h
theorem bare_cons (c : UInt8) (r : List UInt8) : bare (c :: r) = if blank c.toNat then bare r else c :: r := by
  cases h : blank c.toNat <;> simp [bare, List.dropWhile_cons, h]
theorem bare_le (l : List UInt8) : (bare l).length ≤ l.length := by
  induction l with
  | nil => simp [bare]
  | cons c r ih => rw [bare_cons]; split <;> simp <;> omega
theorem lead_cons (c : UInt8) (r : List UInt8) : lead (c :: r) = if digit c.toNat then lead r + 1 else 0 := by
  cases h : digit c.toNat <;> simp [lead, List.takeWhile_cons, h]
theorem lead_drop {l : List UInt8} {n : Nat} (hn : n < l.length) (h : lead l = n + lead (l.drop n)) : lead l = if digit (at_ l n) then n + 1 + lead (l.drop (n + 1)) else n := by
  rw [h, drop_cons hn, lead_cons, at_lt hn]; split <;> omega
theorem lead_end {l : List UInt8} {n : Nat} (hn : ¬ n < l.length) (h : lead l = n + lead (l.drop n)) : lead l = n := by
  rw [h, List.drop_of_length_le (Nat.le_of_not_lt hn)]; rfl
theorem lead_le (l : List UInt8) : lead l ≤ l.length := by
  induction l with
  | nil => simp [lead]
  | cons c r ih => rw [lead_cons]; split <;> simp <;> omega
end Tx
structure Tells (S : ByteArray) (l : List UInt8) : Prop where
  size : S.size = l.length
  get : ∀ i (h : i < S.size), ((S[i]'h).toNat : Int) = Tx.at_ l i
  drop : ∀ a, S.extract a l.length = bs (l.drop a)
  take : ∀ b, S.extract 0 b = bs (l.take b)
  list : S.toList = l
  out : S = bs l
theorem tells_of {S : ByteArray} {l : List UInt8} (h : bs l = S) : Tells S l := by
  subst h
  exact ⟨bs_size l, fun i h => by rw [bs_get, Tx.at_lt], bs_drop l, bs_take l, bs_toList l, rfl⟩
theorem tells (l : List UInt8) : ∃ S, bs l = S ∧ Tells S l := ⟨_, rfl, tells_of rfl⟩
theorem bs_tells (l : List UInt8) : Tells (bs l) l :=
  ⟨bs_size l, fun i h => by rw [bs_get, Tx.at_lt], bs_drop l, bs_take l, bs_toList l, rfl⟩
end Go.Proofs.YtcclepohmhdpbabGreatDoor

namespace Go.Proofs.YtcclepohmhdpbabGreatDoor
set_option linter.all false
open Go.RowKit Go.Deep
def RB (w : World) (b : Nat) (l : List UInt8) (ord : Nat) (bad off : Bool) : Prop := VRow w b 83 [.string (bs l), .int .u64 ord, .bool bad, .bool off]
theorem RB.c0 {w : World} {b : Nat} {l : List UInt8} {ord : Nat} {bad off : Bool} (h : RB w b l ord bad off) : w.cell? ⟨b, 0, none⟩ = some (.string (bs l)) := VRow.cell h rfl
theorem RB.c1 {w : World} {b : Nat} {l : List UInt8} {ord : Nat} {bad off : Bool} (h : RB w b l ord bad off) : w.cell? ⟨b, 1, none⟩ = some (.int .u64 ord) := VRow.cell h rfl
theorem RB.c2 {w : World} {b : Nat} {l : List UInt8} {ord : Nat} {bad off : Bool} (h : RB w b l ord bad off) : w.cell? ⟨b, 2, none⟩ = some (.bool bad) := VRow.cell h rfl
theorem RB.c3 {w : World} {b : Nat} {l : List UInt8} {ord : Nat} {bad off : Bool} (h : RB w b l ord bad off) : w.cell? ⟨b, 3, none⟩ = some (.bool off) := VRow.cell h rfl
theorem RB.f {w : World} {b : Nat} {l : List UInt8} {ord : Nat} {bad off : Bool} (h : RB w b l ord bad off) (i : Nat) : w.frozen? ⟨b, i, none⟩ = false := VRow.frozen h i
theorem RB.rest {w : World} {b : Nat} {l : List UInt8} {ord : Nat} {bad off : Bool} (h : RB w b l ord bad off) (t : List UInt8) : RB (w.setCell ⟨b, 0, none⟩ (.string (bs t))) b t ord bad off := VRow.set h 0 _
theorem RB.ord {w : World} {b : Nat} {l : List UInt8} {ord : Nat} {bad off : Bool} (h : RB w b l ord bad off) (o : Nat) : RB (w.setCell ⟨b, 1, none⟩ (.int .u64 o)) b l o bad off := VRow.set h 1 _
theorem RB.bad {w : World} {b : Nat} {l : List UInt8} {ord : Nat} {bad off : Bool} (h : RB w b l ord bad off) (o : Bool) : RB (w.setCell ⟨b, 2, none⟩ (.bool o)) b l ord o off := VRow.set h 2 _
theorem RB.off {w : World} {b : Nat} {l : List UInt8} {ord : Nat} {bad off : Bool} (h : RB w b l ord bad off) (o : Bool) : RB (w.setCell ⟨b, 3, none⟩ (.bool o)) b l ord bad o := VRow.set h 3 _
namespace Bn
theorem num_step (lit : Bool) {l : List UInt8} {n k : Nat} (hk : k < n) (hn : n ≤ l.length) :
    (big ((ord lit (l.take n)).take (k + 1)) : Int) = (big ((ord lit (l.take n)).take k) : Int) * 256 + Tx.at_ l (if lit = true then n - 1 - k else k) := by
  have hq : (ord lit (l.take n)).length = n := by rw [ord_length, List.length_take]; omega
  have e : (ord lit (l.take n)).take (k + 1) = (ord lit (l.take n)).take k ++ [(ord lit (l.take n))[k]'(by omega)] := List.take_succ_eq_append_getElem (by omega)
  have e2 : ((ord lit (l.take n))[k]'(by omega)).toNat = Tx.at_ l (if lit = true then n - 1 - k else k) := by
    cases lit
    · simp only [ord]
      simp only [Bool.false_eq_true, if_false]
      rw [Tx.at_lt (by omega)]
      simp
    · simp only [ord, if_true]
      rw [Tx.at_lt (by omega), List.getElem_reverse, List.getElem_take]
      have : (List.take n l).length - 1 - k = n - 1 - k := by rw [List.length_take]; omega
      simp only [this]
  rw [e, big_snoc, ← e2]
  omega
theorem take_lt (lit : Bool) {l : List UInt8} {n k : Nat} (hk : k < n) (hn : n ≤ 8) (hl : n ≤ l.length) : big ((ord lit (l.take n)).take k) < 72057594037927936 := by
  have h := big_lt ((ord lit (l.take n)).take k)
  have hq : ((ord lit (l.take n)).take k).length ≤ 7 := by rw [List.length_take]; omega
  have : 256 ^ ((ord lit (l.take n)).take k).length ≤ 256 ^ 7 := Nat.pow_le_pow_right (by omega) hq
  have e : 256 ^ 7 = 72057594037927936 := rfl
  omega
theorem num_end (lit : Bool) {l : List UInt8} {n : Nat} (hn : n ≤ l.length) : big ((ord lit (l.take n)).take n) = num lit (l.take n) := by
  unfold num
  rw [List.take_of_length_le]
  rw [ord_length, List.length_take]; omega
theorem byte_close {V V2 : Nat} {a : Int} (hv : V < 72057594037927936) (ha : 0 ≤ a ∧ a ≤ 255) (h : (V2 : Int) = V * 256 + a) : Value.int .u64 (bits .or .u64 ((V : Int) * 256) a) = .int .u64 (V2 : Int) := by
  obtain ⟨b, rfl⟩ := Int.eq_ofNat_of_zero_le ha.1
  rw [u64_byte V b hv (by omega), h]
  congr 1
end Bn
set_option maxHeartbeats 1000000 in
theorem rnum_bad (n : Nat) (l : List UInt8) (o : Nat) (off bad : Bool) (rb : Nat) (w : World) (hr : RB w rb l o bad off) (hb : bad = true ∨ l.length < n) (hl : l.length ≤ 6000) (hn : n ≤ 8) :
    Calls Tryz.prog 114 #[.pointer (some ⟨rb, 0, none⟩), .int .i64 n] w fun e w' => e = .returned (.int .u64 0) ∧ RB w' rb l o true off ∧ Fr (· = rb) w w' := by
  have e0 := bs_size l
  have c0 := hr.c0
  have c2 := hr.c2
  have f2 := hr.f 2
  have HR := hide hr
  clear hr
  cases bad
  · have hb' : l.length < n := hb.resolve_left (by decide)
    clear hb
    go_enter Tryz.func114, Tryz.ntmps114
    go_wp2
    go_ret
    exact ⟨rfl, HR.out.bad true, (Fr.refl (· = rb) _).setCell (p := ⟨rb, 2, none⟩) rfl _⟩
  · clear hb
    go_enter Tryz.func114, Tryz.ntmps114
    go_wp2
    go_ret
    exact ⟨rfl, HR.out.bad true, (Fr.refl (· = rb) _).setCell (p := ⟨rb, 2, none⟩) rfl _⟩
set_option maxRecDepth 100000 in
set_option maxHeartbeats 2000000 in
theorem rnum_ok (n : Nat) (l : List UInt8) (o : Nat) (off : Bool) (rb : Nat) (w : World) (hr : RB w rb l o false off) (hl : ¬ l.length < n) (hl6 : l.length ≤ 6000) (hn : n ≤ 8) (lit : Bool) (hlit : lit = ((o : Int) == 1)) :
    Calls Tryz.prog 114 #[.pointer (some ⟨rb, 0, none⟩), .int .i64 n] w fun e w' => e = .returned (.int .u64 (Bn.num lit (l.take n))) ∧ RB w' rb (l.drop n) o false off ∧ Fr (· = rb) w w' := by
  obtain ⟨e0, e1, e2, e3, e4, e5⟩ := bs_tells l
  have c0 := hr.c0
  have c1 := hr.c1
  have c2 := hr.c2
  have f0 := hr.f 0
  have HR := hide hr
  clear e3 e4 e5 hr
  go_enter Tryz.func114, Tryz.ntmps114
  go_wp2
  go_loop [5, 6] (fun v i => ∃ k : Nat, k ≤ n ∧ i = .int .i64 k ∧ v = .int .u64 (Bn.big ((Bn.ord lit (l.take n)).take k) : Nat)) (fun _ i => n - (intOf i).toNat)
  case atStart => exact ⟨0, Nat.zero_le _, rfl, by simp [Bn.big, Bn.bigA]⟩
  case round =>
    obtain ⟨k, hk, rfl, rfl⟩ := hrel
    by_cases hlt : k < n
    · have HS := hide (Bn.num_step lit hlt (Nat.le_of_not_lt hl))
      have hv := Bn.take_lt lit hlt hn (Nat.le_of_not_lt hl)
      generalize hV : Bn.big ((Bn.ord lit (l.take n)).take k) = V at *
      generalize hV2 : Bn.big ((Bn.ord lit (l.take n)).take (k + 1)) = V2 at *
      have HV2 := hide hV2
      clear hV hV2
      cases lit
      · have ho := hlit.symm
        clear hlit
        have HX : Hid ((V2 : Int) = V * 256 + Tx.at_ l k) := HS.out
        have hat := Tx.at_nn (l := l) (i := k) (by omega)
        clear HS
        go_wp2
        go_round
        case rel => exact ⟨k + 1, by omega, by go_num, by rw [HV2.out]; exact Bn.byte_close hv hat HX.out⟩
        case measure => simp [intOf]; omega
      · have ho := hlit.symm
        clear hlit
        have HX : Hid ((V2 : Int) = V * 256 + Tx.at_ l (n - 1 - k)) := HS.out
        have hat := Tx.at_nn (l := l) (i := n - 1 - k) (by omega)
        clear HS
        go_wp2
        go_round
        case rel => exact ⟨k + 1, by omega, by go_num, by rw [HV2.out]; exact Bn.byte_close hv hat HX.out⟩
        case measure => simp [intOf]; omega
    · have hkn : k = n := by omega
      subst hkn
      have HE := hide (Bn.num_end lit (Nat.le_of_not_lt hl))
      rw [HE.out]
      clear HE
      go_wp2
      go_ret
      exact ⟨rfl, HR.out.rest _, (Fr.refl (· = rb) _).setCell (p := ⟨rb, 0, none⟩) rfl _⟩
end Go.Proofs.YtcclepohmhdpbabGreatDoor

namespace Go.Proofs.YtcclepohmhdpbabGreatDoor
set_option linter.all false
open Go.RowKit Go.Deep
def optI : Option Int → Value
  | some k => .tuple #[.int .i64 k, .bool true]
  | none => .tuple #[.int .i64 0, .bool false]
set_option maxRecDepth 100000 in
set_option maxHeartbeats 2000000 in
theorem wunits_any (X : Nat) (w : World) (hX : X < 18446744073709551616) :
    Calls Tryz.prog 152 #[.int .u64 X] w fun e w' => e = .returned (optI (Bn.units X)) ∧ w' = w := by
  by_cases h0 : X = 0
  · subst h0
    go_enter Tryz.func152, Tryz.ntmps152
    go_wp2
    go_ret2
    exact ⟨rfl, rfl⟩
  · have h0b : ((X : Int) == 0) = false := beq_eq_false_iff_ne.2 (by omega)
    have hE : X / 4503599627370496 % 2048 < 2048 := Nat.mod_lt _ (by omega)
    have q1 : bits .and .u64 ((X : Int) / 4503599627370496) 2047 = ((X / 4503599627370496 % 2048 : Nat) : Int) := by
      have := Bn.u64_mask (X / 4503599627370496) 11 2047 (by omega) rfl (by omega)
      simpa using this
    have HU := hide (show Bn.units X = _ by unfold Bn.units; rw [if_neg h0])
    obtain ⟨E, hE1⟩ : ∃ E, E = X / 4503599627370496 % 2048 := ⟨_, rfl⟩
    rw [← hE1] at HU q1 hE
    have HE := hide hE1
    clear hE1
    by_cases h1 : E < 1019
    · have HV : Hid (Bn.units X = none) := by rw [HU.out, if_pos (.inl h1)]; exact rfl
      clear HU
      go_enter Tryz.func152, Tryz.ntmps152
      go_wp2
      go_ret2
      rw [HV.out]
      exact ⟨rfl, rfl⟩
    · by_cases h2 : 1071 < E
      · have HV : Hid (Bn.units X = none) := by rw [HU.out, if_pos (.inr h2)]; exact rfl
        clear HU
        go_enter Tryz.func152, Tryz.ntmps152
        go_wp2
        go_ret2
        rw [HV.out]
        exact ⟨rfl, rfl⟩
      · obtain ⟨p, hp⟩ : ∃ p, E = p + 1019 := ⟨E - 1019, by omega⟩
        have hp2 : p ≤ 52 := by omega
        have e1 : 1071 - E = 52 - p := by omega
        have e2 : (E : Int) = (p : Int) + 1019 := by omega
        have e3 : ¬ (E < 1019 ∨ 1071 < E) := by omega
        rw [e2] at q1
        rw [if_neg e3, e1] at HU
        clear e1 e2 e3 hp h1 h2 hE HE
        have q2 : bits .and .u64 (X : Int) 4503599627370495 = ((X % 4503599627370496 : Nat) : Int) := by
          have := Bn.u64_mask X 52 4503599627370495 hX rfl (by omega)
          simpa using this
        have q3 := Bn.u64_first (X % 4503599627370496) (Nat.mod_lt _ (by omega))
        have hM : X % 4503599627370496 + 4503599627370496 < 9007199254740992 := by omega
        obtain ⟨L, hL⟩ : ∃ L, L = X % 4503599627370496 := ⟨_, rfl⟩
        rw [← hL] at q2 q3 HU hM
        obtain ⟨M, hM1⟩ : ∃ M, M = L + 4503599627370496 := ⟨_, rfl⟩
        rw [← hM1] at q3 HU hM
        clear hL hM1
        have q4 := Bn.u64_sign X hX
        obtain ⟨Q, hQ⟩ : ∃ Q, Q = M / 2 ^ (52 - p) := ⟨_, rfl⟩
        obtain ⟨S, hS⟩ : ∃ S, S = Q * 2 ^ (52 - p) := ⟨_, rfl⟩
        have r1 : (M : Int) / 2 ^ (52 - p) = (Q : Int) := by rw [hQ]; simp
        have r2 : (Q : Int) * 2 ^ (52 - p) = (S : Int) := by rw [hS]; simp
        have hSM : S ≤ M := by rw [hS, hQ]; exact Nat.div_mul_le_self _ _
        have hQM : Q ≤ M := by rw [hQ]; exact Nat.div_le_self _ _
        have HSM : Hid (M % 2 ^ (52 - p) = M - S) := by
          have := Nat.div_add_mod M (2 ^ (52 - p))
          rw [Nat.mul_comm, ← hQ, ← hS] at this
          show _ = _
          omega
        rw [← hQ, HSM.out] at HU
        clear hQ hS HSM
        by_cases hs : S = M
        · by_cases hq : 32768 < Q
          · have HV : Hid (Bn.units X = none) := by rw [HU.out, if_pos (.inr hq)]; exact rfl
            clear HU
            subst hs
            have hqi : (32768 : Int) < (Q : Int) := by omega
            go_enter Tryz.func152, Tryz.ntmps152
            go_wp2
            go_ret2
            rw [HV.out]
            exact ⟨rfl, rfl⟩
          · rw [if_neg (by omega)] at HU
            subst hs
            have hqi : ¬ (32768 : Int) < (Q : Int) := by omega
            by_cases hx : 9223372036854775808 ≤ X
            · rw [if_pos hx] at HU q4
              go_enter Tryz.func152, Tryz.ntmps152
              go_wp2
              go_ret2
              rw [HU.out]
              exact ⟨rfl, rfl⟩
            · rw [if_neg hx] at HU q4
              go_enter Tryz.func152, Tryz.ntmps152
              go_wp2
              go_ret2
              rw [HU.out]
              exact ⟨rfl, rfl⟩
        · have HV : Hid (Bn.units X = none) := by rw [HU.out, if_pos (.inl (by omega))]; exact rfl
          have hne : ((S : Int) == (M : Int)) = false := beq_eq_false_iff_ne.2 (by omega)
          have hlt : S < M := by omega
          clear HU
          go_enter Tryz.func152, Tryz.ntmps152
          go_wp2
          go_ret2
          rw [HV.out]
          exact ⟨rfl, rfl⟩
end Go.Proofs.YtcclepohmhdpbabGreatDoor

namespace Go.Proofs.YtcclepohmhdpbabGreatDoor
set_option linter.all false
open Go.RowKit Go.Deep
theorem RB.facts {w : World} {b : Nat} {l : List UInt8} {o : Nat} {bad off : Bool} (h : RB w b l o bad off) :
    w.cell? ⟨b, 0, none⟩ = some (.string (bs l)) ∧ w.cell? ⟨b, 1, none⟩ = some (.int .u64 o) ∧ w.cell? ⟨b, 2, none⟩ = some (.bool bad) ∧ w.cell? ⟨b, 3, none⟩ = some (.bool off) ∧ w.frozen? ⟨b, 0, none⟩ = false ∧ w.frozen? ⟨b, 1, none⟩ = false ∧ w.frozen? ⟨b, 2, none⟩ = false ∧ w.frozen? ⟨b, 3, none⟩ = false :=
  ⟨h.c0, h.c1, h.c2, h.c3, h.f 0, h.f 1, h.f 2, h.f 3⟩
set_option maxHeartbeats 1000000 in
theorem rcoord_bad (l : List UInt8) (o : Nat) (off bad : Bool) (rb : Nat) (w : World) (hr : RB w rb l o bad off) (hb : bad = true ∨ l.length < 8) (hl : l.length ≤ 6000) :
    Calls Tryz.prog 142 #[.pointer (some ⟨rb, 0, none⟩)] w fun e w' => e = .returned (.int .i64 0) ∧ RB w' rb l o true off ∧ Fr (· = rb) w w' := by
  have HR := hide hr
  have HB := hide hb
  have HU : Hid (optI (Bn.units 0) = .tuple #[.int .i64 0, .bool true]) := rfl
  clear hr hb
  go_enter Tryz.func142, Tryz.ntmps142
  go_wp2_with fail
  refine (rnum_bad 8 l o off bad rb _ HR.out HB.out hl (by omega)).mono ?_
  rintro e w1 ⟨rfl, h1, u1⟩
  replace h1 := hide h1
  replace u1 := hide u1
  go_wp2_with fail
  refine (wunits_any 0 _ (by omega)).mono ?_
  rintro e w2 ⟨rfl, rfl⟩
  rw [HU.out]
  go_wp2
  go_ret
  exact ⟨rfl, h1.out, u1.out⟩
set_option maxHeartbeats 1000000 in
theorem rcoord_ok (l : List UInt8) (o : Nat) (off : Bool) (rb : Nat) (w : World) (hr : RB w rb l o false off) (hl : ¬ l.length < 8) (hl6 : l.length ≤ 6000) (lit : Bool) (hlit : lit = ((o : Int) == 1)) :
    Calls Tryz.prog 142 #[.pointer (some ⟨rb, 0, none⟩)] w fun e w' => e = .returned (.int .i64 (Bn.coord (Bn.num lit (l.take 8)))) ∧ RB w' rb (l.drop 8) o false (off || (Bn.units (Bn.num lit (l.take 8))).isNone) ∧ Fr (· = rb) w w' := by
  have HR := hide hr
  have HL := hide hlit
  clear hr hlit
  have hX : Bn.num lit (l.take 8) < 18446744073709551616 := Bn.num_lt8 (by rw [List.length_take]; omega)
  obtain ⟨X, hX1⟩ : ∃ X, X = Bn.num lit (l.take 8) := ⟨_, rfl⟩
  rw [← hX1] at hX ⊢
  have HX := hide hX1
  clear hX1
  go_enter Tryz.func142, Tryz.ntmps142
  go_wp2_with fail
  refine (rnum_ok 8 l o off rb _ HR.out hl hl6 (by omega) lit HL.out).mono ?_
  rintro e w1 ⟨rfl, h1, u1⟩
  rw [← HX.out]
  obtain ⟨-, -, -, c3, -, -, -, f3⟩ := h1.facts
  replace h1 := hide h1
  replace u1 := hide u1
  go_wp2_with fail
  refine (wunits_any X _ hX).mono ?_
  rintro e w2 ⟨rfl, rfl⟩
  obtain ⟨U, hU⟩ : ∃ U, U = Bn.units X := ⟨_, rfl⟩
  rw [← hU]
  have HU := hide hU
  clear hU
  cases U with
  | none =>
    rw [optI]
    go_wp2
    go_ret
    unfold Bn.coord
    rw [← HU.out]
    refine ⟨rfl, ?_, u1.out.setCell (p := ⟨rb, 3, none⟩) rfl _⟩
    have := h1.out.off true
    simpa using this
  | some k =>
    rw [optI]
    go_wp2
    go_ret
    unfold Bn.coord
    rw [← HU.out]
    refine ⟨rfl, ?_, u1.out⟩
    have := h1.out
    simpa using this
namespace Bn
theorem num_one (lit : Bool) {l : List UInt8} (h : ¬ l.length < 1) : num lit (l.take 1) = num false (l.take 1) := by
  cases l with
  | nil => simp at h
  | cons c t => cases lit <;> rfl
end Bn
set_option maxHeartbeats 4000000 in
theorem rgeom_any (kind : Nat) (hk : 0 < kind) (hk2 : kind < 100) (l : List UInt8) (o0 : Nat) (off : Bool) (rb : Nat) (w : World) (hr : RB w rb l o0 false off) (hl : l.length ≤ 6000) :
    Calls Tryz.prog 75 #[.pointer (some ⟨rb, 0, none⟩), .int .u64 kind] w fun e w' => ∃ (v : Nat) (l' : List UInt8) (o : Nat) (bad : Bool), e = .returned (.int .u64 v) ∧ RB w' rb l' o bad off ∧ Fr (· = rb) w w' ∧ Bn.head kind l = (if bad = true then none else some (((o : Int) == 1), v, l')) ∧ v < 4294967296 ∧ l'.length ≤ 6000 := by
  have HR := hide hr
  clear hr
  have kne : ((0 : Int) == (kind : Int)) = false := beq_eq_false_iff_ne.2 (by omega)
  by_cases hA : l.length < 1
  · have HH : Hid (Bn.head kind l = none) := by show _ = _; unfold Bn.head; rw [Bn.cut_none hA]; rfl
    go_enter Tryz.func75, Tryz.ntmps75
    go_wp2_with fail
    refine (rnum_bad 1 l o0 off false rb _ HR.out (.inr hA) hl (by omega)).mono ?_
    rintro e w1 ⟨rfl, h1, u1⟩
    obtain ⟨a0, a1, a2, a3, a4, a5, a6, a7⟩ := h1.facts
    have h2 := h1.ord 0
    obtain ⟨b0, b1, b2, b3, b4, b5, b6, b7⟩ := h2.facts
    replace h2 := hide h2
    replace u1 := hide u1
    clear h1
    go_wp2_with fail
    refine (rnum_bad 4 l 0 off true rb _ h2.out (.inl rfl) hl (by omega)).mono ?_
    rintro e w2 ⟨rfl, h3, u3⟩
    obtain ⟨a0', a1', a2', a3', a4', a5', a6', a7'⟩ := h3.facts
    have h4 := hide (h3.bad true)
    replace u3 := hide u3
    clear h3
    go_wp2_with fail
    refine (rnum_bad 4 l 0 off true rb _ h4.out (.inl rfl) hl (by omega)).mono ?_
    rintro e w3 ⟨rfl, h5, u5⟩
    replace h5 := hide h5
    replace u5 := hide u5
    go_wp2
    go_ret
    exact ⟨0, l, 0, true, rfl, h5.out, (((u1.out.setCell (p := ⟨rb, 1, none⟩) rfl _).trans u3.out).setCell (p := ⟨rb, 2, none⟩) rfl _).trans u5.out, HH.out, by omega, hl⟩
  · have HN := hide (Bn.num_one ((o0 : Int) == 1) hA)
    have HH := hide (show Bn.head kind l = _ by unfold Bn.head; rw [Bn.cut_some hA, Option.bind_some])
    have hc : Bn.num false (l.take 1) < 256 := by
      have := Bn.num_lt false (l.take 1)
      rw [List.length_take, Nat.min_eq_left (by omega)] at this
      simpa using this
    obtain ⟨c, hc1⟩ : ∃ c, c = Bn.num false (l.take 1) := ⟨_, rfl⟩
    obtain ⟨t, ht⟩ : ∃ t, t = l.drop 1 := ⟨_, rfl⟩
    have htl : t.length ≤ 6000 := by rw [ht]; simp; omega
    rw [← hc1] at HN HH hc
    rw [← ht] at HH
    have HT := hide ht
    clear hc1 ht
    by_cases hB : 1 < c
    · have HH' : Hid (Bn.head kind l = none) := by rw [HH.out, if_pos hB]; exact rfl
      have c0b : ((c : Int) != 0) = true := bne_iff_ne.2 (by omega)
      have c1b : ((c : Int) != 1) = true := bne_iff_ne.2 (by omega)
      clear HH
      go_enter Tryz.func75, Tryz.ntmps75
      go_wp2_with fail
      refine (rnum_ok 1 l o0 off rb _ HR.out hA hl (by omega) _ rfl).mono ?_
      rintro e w1 ⟨rfl, h1, u1⟩
      rw [HN.out]
      rw [← HT.out] at h1
      obtain ⟨a0, a1, a2, a3, a4, a5, a6, a7⟩ := h1.facts
      have h2 := h1.ord c
      obtain ⟨b0, b1, b2, b3, b4, b5, b6, b7⟩ := h2.facts
      have h2b := hide (h2.bad true)
      replace u1 := hide u1
      clear h1 h2
      go_wp2_with fail
      refine (rnum_bad 4 t c off true rb _ h2b.out (.inl rfl) htl (by omega)).mono ?_
      rintro e w2 ⟨rfl, h3, u3⟩
      obtain ⟨a0', a1', a2', a3', a4', a5', a6', a7'⟩ := h3.facts
      have h4 := hide (h3.bad true)
      replace u3 := hide u3
      clear h3
      go_wp2_with fail
      refine (rnum_bad 4 t c off true rb _ h4.out (.inl rfl) htl (by omega)).mono ?_
      rintro e w3 ⟨rfl, h5, u5⟩
      replace h5 := hide h5
      replace u5 := hide u5
      go_wp2
      go_ret
      exact ⟨0, t, c, true, rfl, h5.out, ((((u1.out.setCell (p := ⟨rb, 1, none⟩) rfl _).setCell (p := ⟨rb, 2, none⟩) rfl _).trans u3.out).setCell (p := ⟨rb, 2, none⟩) rfl _).trans u5.out, HH'.out, by omega, htl⟩
    · rw [if_neg hB] at HH
      have HL : Hid ((c == 1) = ((c : Int) == 1)) := by
        show _ = _
        rcases (show c = 0 ∨ c = 1 by omega) with rfl | rfl <;> rfl
      rw [HL.out] at HH
      have hd : (((c : Int) != 0) = false) ∨ (((c : Int) != 0) = true ∧ ((c : Int) != 1) = false) := by
        rcases (show c = 0 ∨ c = 1 by omega) with rfl | rfl
        · exact .inl rfl
        · exact .inr ⟨rfl, rfl⟩
      by_cases hC : t.length < 4
      · have HH' : Hid (Bn.head kind l = none) := by rw [HH.out, Bn.cut_none hC]; exact rfl
        clear HH
        rcases hd with d0 | ⟨d0, d1⟩
        all_goals
          go_enter Tryz.func75, Tryz.ntmps75
          go_wp2_with fail
          refine (rnum_ok 1 l o0 off rb _ HR.out hA hl (by omega) _ rfl).mono ?_
          rintro e w1 ⟨rfl, h1, u1⟩
          rw [HN.out]
          rw [← HT.out] at h1
          obtain ⟨a0, a1, a2, a3, a4, a5, a6, a7⟩ := h1.facts
          have h2 := hide (h1.ord c)
          obtain ⟨b0, b1, b2, b3, b4, b5, b6, b7⟩ := RB.facts (h1.ord c)
          replace u1 := hide u1
          clear h1
          go_wp2_with fail
          refine (rnum_bad 4 t _ off false rb _ h2.out (.inr hC) htl (by omega)).mono ?_
          rintro e w2 ⟨rfl, h3, u3⟩
          obtain ⟨a0', a1', a2', a3', a4', a5', a6', a7'⟩ := h3.facts
          have h4 := hide (h3.bad true)
          replace u3 := hide u3
          clear h3
          go_wp2_with fail
          refine (rnum_bad 4 t _ off true rb _ h4.out (.inl rfl) htl (by omega)).mono ?_
          rintro e w3 ⟨rfl, h5, u5⟩
          replace h5 := hide h5
          replace u5 := hide u5
          go_wp2
          go_ret
          exact ⟨0, t, _, true, rfl, h5.out, (((u1.out.setCell (p := ⟨rb, 1, none⟩) rfl _).trans u3.out).setCell (p := ⟨rb, 2, none⟩) rfl _).trans u5.out, HH'.out, by omega, htl⟩
      · rw [Bn.cut_some hC, Option.bind_some] at HH
        have hy : Bn.num ((c : Int) == 1) (t.take 4) < 4294967296 := Bn.num_lt4 (by rw [List.length_take]; omega)
        obtain ⟨y, hy1⟩ : ∃ y, y = Bn.num ((c : Int) == 1) (t.take 4) := ⟨_, rfl⟩
        obtain ⟨u, hu⟩ : ∃ u, u = t.drop 4 := ⟨_, rfl⟩
        have hul : u.length ≤ 6000 := by rw [hu]; simp; omega
        rw [← hy1] at HH hy
        rw [← hu] at HH
        have HY := hide hy1
        have HU := hide hu
        clear hy1 hu
        by_cases hD : y = kind
        · rw [if_neg (by simpa using hD)] at HH
          have hDb : ((y : Int) != (kind : Int)) = false := bne_eq_false_iff_eq.2 (by omega)
          by_cases hE : u.length < 4
          · have HH' : Hid (Bn.head kind l = none) := by rw [HH.out, Bn.cut_none hE]; exact rfl
            clear HH
            rcases hd with d0 | ⟨d0, d1⟩
            all_goals
              go_enter Tryz.func75, Tryz.ntmps75
              go_wp2_with fail
              refine (rnum_ok 1 l o0 off rb _ HR.out hA hl (by omega) _ rfl).mono ?_
              rintro e w1 ⟨rfl, h1, u1⟩
              rw [HN.out]
              rw [← HT.out] at h1
              obtain ⟨a0, a1, a2, a3, a4, a5, a6, a7⟩ := h1.facts
              have h2 := hide (h1.ord c)
              obtain ⟨b0, b1, b2, b3, b4, b5, b6, b7⟩ := RB.facts (h1.ord c)
              replace u1 := hide u1
              clear h1
              go_wp2_with fail
              refine (rnum_ok 4 t _ off rb _ h2.out hC htl (by omega) _ rfl).mono ?_
              rintro e w2 ⟨rfl, h3, u3⟩
              rw [← HY.out]
              rw [← HU.out] at h3
              obtain ⟨a0', a1', a2', a3', a4', a5', a6', a7'⟩ := h3.facts
              have h4 := hide (h3.bad true)
              replace u3 := hide u3
              replace h3 := hide h3
              go_wp2_with fail
              refine (rnum_bad 4 u _ off false rb _ h3.out (.inr hE) hul (by omega)).mono ?_
              rintro e w3 ⟨rfl, h5, u5⟩
              replace h5 := hide h5
              replace u5 := hide u5
              go_wp2
              go_ret
              exact ⟨0, u, _, true, rfl, h5.out, ((u1.out.setCell (p := ⟨rb, 1, none⟩) rfl _).trans u3.out).trans u5.out, HH'.out, by omega, hul⟩
          · rw [Bn.cut_some hE, Option.bind_some] at HH
            have hz : Bn.num ((c : Int) == 1) (u.take 4) < 4294967296 := Bn.num_lt4 (by rw [List.length_take]; omega)
            rcases hd with d0 | ⟨d0, d1⟩
            all_goals
              go_enter Tryz.func75, Tryz.ntmps75
              go_wp2_with fail
              refine (rnum_ok 1 l o0 off rb _ HR.out hA hl (by omega) _ rfl).mono ?_
              rintro e w1 ⟨rfl, h1, u1⟩
              rw [HN.out]
              rw [← HT.out] at h1
              obtain ⟨a0, a1, a2, a3, a4, a5, a6, a7⟩ := h1.facts
              have h2 := hide (h1.ord c)
              obtain ⟨b0, b1, b2, b3, b4, b5, b6, b7⟩ := RB.facts (h1.ord c)
              replace u1 := hide u1
              clear h1
              go_wp2_with fail
              refine (rnum_ok 4 t _ off rb _ h2.out hC htl (by omega) _ rfl).mono ?_
              rintro e w2 ⟨rfl, h3, u3⟩
              rw [← HY.out]
              rw [← HU.out] at h3
              obtain ⟨a0', a1', a2', a3', a4', a5', a6', a7'⟩ := h3.facts
              have h4 := hide (h3.bad true)
              replace u3 := hide u3
              replace h3 := hide h3
              go_wp2_with fail
              refine (rnum_ok 4 u _ off rb _ h3.out hE hul (by omega) _ rfl).mono ?_
              rintro e w3 ⟨rfl, h5, u5⟩
              replace h5 := hide h5
              replace u5 := hide u5
              go_wp2
              go_ret
              exact ⟨_, _, _, false, rfl, h5.out, ((u1.out.setCell (p := ⟨rb, 1, none⟩) rfl _).trans u3.out).trans u5.out, HH.out, hz, by simp; omega⟩
        · rw [if_pos (by simpa using hD)] at HH
          have hDb : ((y : Int) != (kind : Int)) = true := bne_iff_ne.2 (by omega)
          rcases hd with d0 | ⟨d0, d1⟩
          all_goals
            go_enter Tryz.func75, Tryz.ntmps75
            go_wp2_with fail
            refine (rnum_ok 1 l o0 off rb _ HR.out hA hl (by omega) _ rfl).mono ?_
            rintro e w1 ⟨rfl, h1, u1⟩
            rw [HN.out]
            rw [← HT.out] at h1
            obtain ⟨a0, a1, a2, a3, a4, a5, a6, a7⟩ := h1.facts
            have h2 := hide (h1.ord c)
            obtain ⟨b0, b1, b2, b3, b4, b5, b6, b7⟩ := RB.facts (h1.ord c)
            replace u1 := hide u1
            clear h1
            go_wp2_with fail
            refine (rnum_ok 4 t _ off rb _ h2.out hC htl (by omega) _ rfl).mono ?_
            rintro e w2 ⟨rfl, h3, u3⟩
            rw [← HY.out]
            rw [← HU.out] at h3
            obtain ⟨a0', a1', a2', a3', a4', a5', a6', a7'⟩ := h3.facts
            have h4 := hide (h3.bad true)
            replace u3 := hide u3
            replace h3 := hide h3
            go_wp2_with fail
            refine (rnum_bad 4 u _ off true rb _ h4.out (.inl rfl) hul (by omega)).mono ?_
            rintro e w3 ⟨rfl, h5, u5⟩
            replace h5 := hide h5
            replace u5 := hide u5
            go_wp2
            go_ret
            exact ⟨0, u, _, true, rfl, h5.out, (((u1.out.setCell (p := ⟨rb, 1, none⟩) rfl _).trans u3.out).setCell (p := ⟨rb, 2, none⟩) rfl _).trans u5.out, HH.out, by omega, hul⟩
end Go.Proofs.YtcclepohmhdpbabGreatDoor

namespace Go.Proofs.YtcclepohmhdpbabGreatDoor
set_option linter.all false
open Go.RowKit Go.Deep
structure Elem (P : Program) (t e : TypeId) (z : Value) (size bytes : Nat) : Prop where
  und : P.underlying t = some (.slice e)
  info : (P.info? e).map (fun i => (i.zero, i.size, i.bytes)) = some (some z, size, bytes)
  zs : z.cells.size = size
  pos : 0 < size
  small : bytes ≤ 4096
theorem step_app {P : Program} {t e : TypeId} {z : Value} {size bytes : Nat} (E0 : Elem P t e z size bytes) {ops : Array Oper} {o : Oper} {a : Act} {w : World} {K : Act → World → Prop} {Q : Exit → Act → World → Prop} {E : Prop} (hgd : o.guard = none) (s x : Operand)
    (ho : o.op = .call { callee := .builtin .append, args := #[s, x], argTypes := #[t, t] }) (base : Nat) (v : Value) (n : Nat) (xs : List Value) (hs : a.eval s = v) (hown : w.ownsRow base e size v n xs)
    (g0 : Nat) (news : List Value) (hx : a.eval x = .slice (some ⟨g0, 0, none⟩) 1 1) (hl : news.length = size) (hg0 : w.heap[g0]? = some (.cells news.toArray e (0, 0))) (h1 : ∀ u ∈ news, u.oneCell' = true)
    (hn : n ≤ 1073741824) (hbase : base ≤ w.heap.size)
    (h : ∀ g cap w', w'.ownsRow base e size (.slice (some ⟨g, 0, none⟩) (n + 1) cap) (n + 1) (xs ++ news) → w.grownBy w' v.ownBlock → (v.ownBlock = some g ∨ g = w.heap.size) → g < w'.heap.size → K (a.put o.dst (.slice (some ⟨g, 0, none⟩) (n + 1) cap)) w') :
    if Region.wanted o (yielded ops a.tmps) = true then Oper.wp P o a w K Q else E := by
  obtain ⟨i, hi, hzz⟩ := Option.map_eq_some_iff.1 E0.info
  simp only [Prod.mk.injEq] at hzz
  obtain ⟨z1, z2, z3⟩ := hzz
  refine step_append_lies w hgd s x t ho base e i z size bytes E0.und hi z1 z2 z3 E0.zs E0.pos v n xs hs hown ⟨g0, 0, none⟩ 1 1 news hx (by omega) ?_ h1 (by omega) (by unfold maxLen; omega) ?_ hbase w.heap.size rfl h
  · have := World.news_of_block hg0
    simpa using this
  · have := E0.small
    have h2 : (n + 1) * bytes ≤ (n + 1) * 4096 := Nat.mul_le_mul_left _ this
    omega
theorem wpList_app {P : Program} {t e : TypeId} {z : Value} {size bytes : Nat} (E0 : Elem P t e z size bytes) {ops : Array Oper} {rest : List Oper} {o : Oper} {a : Act} {w : World} {Q : Exit → Act → World → Prop} (hgd : o.guard = none) (s x : Operand)
    (ho : o.op = .call { callee := .builtin .append, args := #[s, x], argTypes := #[t, t] }) (base : Nat) (v : Value) (n : Nat) (xs : List Value) (hs : a.eval s = v) (hown : w.ownsRow base e size v n xs)
    (g0 : Nat) (news : List Value) (hx : a.eval x = .slice (some ⟨g0, 0, none⟩) 1 1) (hl : news.length = size) (hg0 : w.heap[g0]? = some (.cells news.toArray e (0, 0))) (h1 : ∀ u ∈ news, u.oneCell' = true)
    (hn : n ≤ 1073741824) (hbase : base ≤ w.heap.size)
    (h : ∀ g cap w', w'.ownsRow base e size (.slice (some ⟨g, 0, none⟩) (n + 1) cap) (n + 1) (xs ++ news) → w.grownBy w' v.ownBlock → (v.ownBlock = some g ∨ g = w.heap.size) → g < w'.heap.size → wpList P ops Q rest (a.put o.dst (.slice (some ⟨g, 0, none⟩) (n + 1) cap)) w') :
    wpList P ops Q (o :: rest) a w := by
  obtain ⟨i, hi, hzz⟩ := Option.map_eq_some_iff.1 E0.info
  simp only [Prod.mk.injEq] at hzz
  obtain ⟨z1, z2, z3⟩ := hzz
  refine wpList_append_lies w hgd s x t ho base e i z size bytes E0.und hi z1 z2 z3 E0.zs E0.pos v n xs hs hown ⟨g0, 0, none⟩ 1 1 news hx (by omega) ?_ h1 (by omega) (by unfold maxLen; omega) ?_ hbase w.heap.size rfl h
  · have := World.news_of_block hg0
    simpa using this
  · have := E0.small
    have h2 : (n + 1) * bytes ≤ (n + 1) * 4096 := Nat.mul_le_mul_left _ this
    omega
theorem own_type {w : World} {base : Nat} {e : TypeId} {size : Nat} {v : Value} {n : Nat} {xs : List Value} (h : w.ownsRow base e size v n xs) {g : Nat} (hg : v.ownBlock = some g) : ∃ cur, w.heap[g]? = some (.cells cur e (0, 0)) := by
  rcases h.2 with ⟨rfl, _⟩ | ⟨g', cap, cur, rfl, _, hh, _⟩
  · cases hg
  · cases hg; exact ⟨cur, hh⟩
theorem own_apart {w : World} {base base' : Nat} {e e' : TypeId} {size size' : Nat} {v v' : Value} {n n' : Nat} {xs xs' : List Value} (h : w.ownsRow base e size v n xs) (h' : w.ownsRow base' e' size' v' n' xs') (he : e ≠ e') : v.ownBlock = none ∨ v.ownBlock ≠ v'.ownBlock := by
  cases hv : v.ownBlock with
  | none => exact .inl rfl
  | some g =>
    refine .inr fun e2 => ?_
    obtain ⟨c, hc⟩ := own_type h hv
    obtain ⟨c', hc'⟩ := own_type h' e2.symm
    rw [hc] at hc'
    simp at hc'
    exact he hc'.2
theorem own_row_ne {w : World} {base : Nat} {e : TypeId} {size : Nat} {v : Value} {n : Nat} {xs : List Value} (h : w.ownsRow base e size v n xs) {b : Nat} {t : TypeId} {vs : List Value} (hb : VRow w b t vs) (he : e ≠ t) : v.ownBlock ≠ some b := by
  intro e2
  obtain ⟨c, hc⟩ := own_type h e2
  unfold VRow at hb
  rw [hb] at hc
  simp at hc
  exact he hc.2.symm
theorem own_of_block {w w' : World} {base : Nat} {e : TypeId} {size : Nat} {v : Value} {n : Nat} {xs : List Value} (h : w.ownsRow base e size v n xs) (k : ∀ g, v.ownBlock = some g → w'.heap[g]? = w.heap[g]?) : w'.ownsRow base e size v n xs := by
  refine ⟨h.1, ?_⟩
  rcases h.2 with h2 | ⟨g, cap, cur, rfl, hb, hh, r⟩
  · exact .inl h2
  · exact .inr ⟨g, cap, cur, rfl, hb, (k g rfl).trans hh, r⟩
theorem own_lt {w : World} {base : Nat} {e : TypeId} {size : Nat} {v : Value} {n : Nat} {xs : List Value} (h : w.ownsRow base e size v n xs) {g : Nat} (hg : v.ownBlock = some g) : base ≤ g ∧ g < w.heap.size := h.lt g hg
theorem own_set {w : World} {base : Nat} {e : TypeId} {size : Nat} {v : Value} {n : Nat} {xs : List Value} (h : w.ownsRow base e size v n xs) {a : Addr} (ha : v.ownBlock ≠ some a.block) (u : Value) : (w.setCell a u).ownsRow base e size v n xs :=
  own_of_block h fun g hg => Below.heap_setCell _ _ _ _ (fun e => ha (e ▸ hg))
theorem own_up {w w' : World} {base : Nat} {e : TypeId} {size : Nat} {v : Value} {n : Nat} {xs : List Value} (h : w.ownsRow base e size v n xs) (k : Up w w') : w'.ownsRow base e size v n xs :=
  own_of_block h fun g hg => k.block g (own_lt h hg).2
theorem own_fr {S : Nat → Prop} {w w' : World} {base : Nat} {e : TypeId} {size : Nat} {v : Value} {n : Nat} {xs : List Value} (h : w.ownsRow base e size v n xs) (k : Fr S w w') (hs : ∀ g, v.ownBlock = some g → ¬ S g) : w'.ownsRow base e size v n xs :=
  own_of_block h fun g hg => k.block g (own_lt h hg).2 (hs g hg)
theorem own_base {w : World} {base base' : Nat} {e : TypeId} {size : Nat} {v : Value} {n : Nat} {xs : List Value} (h : w.ownsRow base e size v n xs) (hb : base' ≤ base) : w.ownsRow base' e size v n xs := by
  refine ⟨h.1, ?_⟩
  rcases h.2 with h2 | ⟨g, cap, cur, rfl, hb2, r⟩
  · exact .inl h2
  · exact .inr ⟨g, cap, cur, rfl, by omega, r⟩
theorem VRow.grown {w w' : World} {row : Option Nat} {b : Nat} {t : TypeId} {vs : List Value} (h : VRow w b t vs) (hg : w.grownBy w' row) (hne : row ≠ some b) : VRow w' b t vs :=
  h.of_block (hg.block b h.lt (fun e => hne e.symm))
end Go.Proofs.YtcclepohmhdpbabGreatDoor

namespace Go.Proofs.YtcclepohmhdpbabGreatDoor
set_option linter.all false
open Go.RowKit Go.Deep
theorem el_polys : Elem Tryz.prog 42 45 (.slice none 0 0) 1 24 := ⟨und_polys, info_rings, rfl, by omega, by omega⟩
theorem el_rings : Elem Tryz.prog 45 46 (.slice none 0 0) 1 24 := ⟨und_rings, info_pts, rfl, by omega, by omega⟩
theorem el_ints : Elem Tryz.prog 107 3 (.int .i64 0) 1 8 := ⟨by kernel_rfl, by kernel_rfl, rfl, by omega, by omega⟩
def intV (l : List (Value × Int)) : List Value := l.map fun e => .int .i64 e.2
def fstV (l : List (Value × Int)) : List Value := l.map fun e => e.1
theorem own_shape {w : World} {base : Nat} {e : TypeId} {size : Nat} {v : Value} {n : Nat} {xs : List Value} (h : w.ownsRow base e size v n xs) : ∃ a n k, v = .slice a n k := by
  rcases h.2 with ⟨rfl, _⟩ | ⟨g, cap, cur, rfl, _⟩
  · exact ⟨_, _, _, rfl⟩
  · exact ⟨_, _, _, rfl⟩
end Go.Proofs.YtcclepohmhdpbabGreatDoor
