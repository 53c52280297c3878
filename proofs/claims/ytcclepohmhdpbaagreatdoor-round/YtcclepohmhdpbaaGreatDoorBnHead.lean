import Derived.Test.YtcclepohmhdpbaaGreatDoorBnMath
import Derived.Laws.Bits64b
import Derived.Test.YtcclepohmhdpbaaGreatDoorStr
import Derived.Test.YtcclepohmhdpbaaGreatDoorFrame
import Derived.WalkKit
/- BYTES, WRITTEN: the plain mathematics. -/
namespace Go.Proofs.YtcclepohmhdpbaaGreatDoor
set_option linter.all false

namespace Bn

/-- So many bytes of a number, the lowest first. -/
def low : Nat → Nat → List UInt8
  | 0, _ => []
  | n + 1, v => UInt8.ofNat (v % 256) :: low n (v / 256)
def put (lit : Bool) (n v : Nat) : List UInt8 := if lit = true then low n v else (low n v).reverse
theorem low_length (n v : Nat) : (low n v).length = n := by
  induction n generalizing v with
  | zero => rfl
  | succ n ih => simp [low, ih]
theorem put_length (lit : Bool) (n v : Nat) : (put lit n v).length = n := by unfold put; split <;> simp [low_length]
theorem low_add (m n v : Nat) : low (m + n) v = low m v ++ low n (v / 256 ^ m) := by
  induction m generalizing v with
  | zero => simp [low]
  | succ m ih =>
    rw [show m + 1 + n = (m + n) + 1 by omega]
    simp only [low, List.cons_append, ih]
    rw [Nat.div_div_eq_div_mul, Nat.pow_succ, Nat.mul_comm 256]
theorem low_mod (n v : Nat) : low n (v % 256 ^ n) = low n v := by
  induction n generalizing v with
  | zero => rfl
  | succ n ih =>
    simp only [low]
    have h1 : v % 256 ^ (n + 1) % 256 = v % 256 := by rw [Nat.pow_succ]; exact Nat.mod_mod_of_dvd _ (Nat.dvd_mul_left _ _)
    have h2 : v % 256 ^ (n + 1) / 256 = v / 256 % 256 ^ n := by rw [Nat.pow_succ, Nat.mul_comm]; exact Nat.mod_mul_right_div_self _ _ _
    rw [h1, h2, ih]
theorem low_halves (hi lo : Nat) (h : lo < 4294967296) : low 8 (hi * 4294967296 + lo) = low 4 lo ++ low 4 hi := by
  rw [show 8 = 4 + 4 from rfl, low_add]
  congr 1
  · rw [← low_mod]; congr 1; show (hi * 4294967296 + lo) % 4294967296 = lo; omega
  · congr 1; show (hi * 4294967296 + lo) / 4294967296 = hi; omega
theorem put_halves (lit : Bool) (hi lo : Nat) (h : lo < 4294967296) : put lit 8 (hi * 4294967296 + lo) = if lit = true then put lit 4 lo ++ put lit 4 hi else put lit 4 hi ++ put lit 4 lo := by
  cases lit
  · show (low 8 _).reverse = (low 4 hi).reverse ++ (low 4 lo).reverse
    rw [low_halves _ _ h, List.reverse_append]
  · show low 8 _ = low 4 lo ++ low 4 hi
    rw [low_halves _ _ h]

/-- How often a number is doubled till its first bit stands at 2^52. -/
def sh : Nat → Nat → Nat
  | 0, _ => 0
  | f + 1, k => if k < 4503599627370496 then sh f (2 * k) + 1 else 0
def dblOf (neg : Bool) (k j : Nat) : Nat := (if neg = true then 9223372036854775808 else 0) + (1071 - j) * 4503599627370496 + (k * 2 ^ j - 4503599627370496)
/-- The bits of the double that so many units are. -/
def dbl (u : Int) : Nat := if u = 0 then 0 else dblOf (decide (u < 0)) u.natAbs (sh 60 u.natAbs)
theorem sh_step {f k i a : Nat} (h : sh 60 k = i + sh (f + 1) a) (ha : a < 4503599627370496) : sh 60 k = (i + 1) + sh f (2 * a) := by
  rw [h, sh, if_pos ha]; omega
theorem sh_end {f k i a : Nat} (h : sh 60 k = i + sh (f + 1) a) (ha : ¬ a < 4503599627370496) : sh 60 k = i := by
  rw [h, sh, if_neg ha]; omega

def geom (lit : Bool) (kind n : Nat) : List UInt8 := put lit 1 (if lit = true then 1 else 0) ++ put lit 4 kind ++ put lit 4 n
def ptT (lit : Bool) (p : Pnt) : List UInt8 := put lit 8 (dbl p.1) ++ put lit 8 (dbl p.2)
def ringT (lit : Bool) (r : Ring) : List UInt8 := put lit 4 r.length ++ r.flatMap (ptT lit)
def polyT (lit : Bool) (l : Poly) : List UInt8 := geom lit 3 l.length ++ l.flatMap (ringT lit)
def setT (lit : Bool) (m : Mult) : List UInt8 := geom lit 6 m.length ++ m.flatMap (polyT lit)
theorem geom_length (lit : Bool) (kind n : Nat) : (geom lit kind n).length = 9 := by simp [geom, put_length]
theorem ptT_length (lit : Bool) (p : Pnt) : (ptT lit p).length = 16 := by simp [ptT, put_length]
theorem fm_le {α : Type} (f : α → List UInt8) (b : Nat) : ∀ l : List α, (∀ a ∈ l, (f a).length ≤ b) → (l.flatMap f).length ≤ l.length * b
  | [], _ => by simp
  | a :: t, h => by
    have h1 := fm_le f b t fun x hx => h x (List.mem_cons_of_mem _ hx)
    have h2 := h a (by simp)
    simp only [List.flatMap_cons, List.length_append, List.length_cons, Nat.add_mul]
    omega
theorem ringT_le (lit : Bool) {r : Ring} (h : r.length ≤ 6000) : (ringT lit r).length ≤ 100000 := by
  have := fm_le (ptT lit) 16 r fun p _ => Nat.le_of_eq (ptT_length lit p)
  simp only [ringT, List.length_append, put_length]
  omega
theorem polyT_le (lit : Bool) {l : Poly} (h : okL l) : (polyT lit l).length ≤ 600000100 := by
  have := fm_le (ringT lit) 100000 l fun r hr => ringT_le lit (h.2 r hr).1
  have := h.1
  simp only [polyT, List.length_append, geom_length]
  omega
theorem fm_step {α : Type} (f : α → List UInt8) {l : List α} {n : Nat} {a : α} (h : l[n]? = some a) : (l.drop n).flatMap f = f a ++ (l.drop (n + 1)).flatMap f := by
  have hn : n < l.length := Pl.lt_of_some h
  rw [List.drop_eq_getElem_cons hn]
  have : l[n] = a := by rw [List.getElem?_eq_getElem hn] at h; exact Option.some.inj h
  rw [this]; rfl
theorem fm_end {α : Type} (f : α → List UInt8) {l : List α} {n : Nat} (h : ¬ n < l.length) : (l.drop n).flatMap f = [] := by
  rw [List.drop_of_length_le (Nat.le_of_not_lt h)]; rfl
end Bn
end Go.Proofs.YtcclepohmhdpbaaGreatDoor

/- BYTES: bits of unsigned numbers, as arithmetic. -/
namespace Go.Proofs.YtcclepohmhdpbaaGreatDoor
set_option linter.all false

namespace Bn
theorem or_low (a b i : Nat) (hb : b < 2 ^ i) : (a * 2 ^ i) ||| b = a * 2 ^ i + b := by
  rw [Nat.mul_comm]
  exact (Nat.two_pow_add_eq_or_of_lt hb a).symm
/-- One byte more. -/
theorem u64_byte (v b : Nat) (hv : v < 72057594037927936) (hb : b < 256) : bits .or .u64 ((v : Int) * 256) (b : Int) = ((v * 256 + b : Nat) : Int) := by
  have h := bits_or_u64_nat (v * 256) b (by omega) (by omega)
  have e : ((v * 256 : Nat) : Int) = (v : Int) * 256 := by omega
  rw [e] at h
  rw [h, show 256 = 2 ^ 8 from rfl, or_low v b 8 hb]
theorem u64_mask (x : Nat) (n m : Nat) (hx : x < 18446744073709551616) (hm : m = 2 ^ n - 1) (hn : m < 18446744073709551616) : bits .and .u64 (x : Int) (m : Int) = ((x % 2 ^ n : Nat) : Int) := by
  rw [bits_and_u64_nat x m hx hn, hm, Nat.and_two_pow_sub_one_eq_mod]
theorem u64_first (x : Nat) (hx : x < 4503599627370496) : bits .or .u64 (x : Int) 4503599627370496 = ((x + 4503599627370496 : Nat) : Int) := by
  have h := bits_or_u64_nat x 4503599627370496 (by omega) (by omega)
  rw [show ((4503599627370496 : Nat) : Int) = 4503599627370496 from rfl] at h
  rw [h, Nat.or_comm]
  have := or_low 1 x 52 (by simpa using hx)
  simp only [Nat.one_mul, show 2 ^ 52 = 4503599627370496 from rfl] at this
  rw [this, Nat.add_comm]
theorem and_sign (x : Nat) (hx : x < 18446744073709551616) : x &&& 9223372036854775808 = if 9223372036854775808 ≤ x then 9223372036854775808 else 0 := by
  have h1 : (x &&& 2 ^ 63) / 2 ^ 63 = x / 2 ^ 63 &&& 2 ^ 63 / 2 ^ 63 := Nat.and_div_two_pow
  have h2 : (x &&& 2 ^ 63) % 2 ^ 63 = x % 2 ^ 63 &&& 2 ^ 63 % 2 ^ 63 := Nat.and_mod_two_pow
  rw [show (2 ^ 63 : Nat) = 9223372036854775808 from rfl] at h1 h2
  rw [show (9223372036854775808 : Nat) / 9223372036854775808 = 1 from rfl] at h1
  rw [show (9223372036854775808 : Nat) % 9223372036854775808 = 0 from rfl, Nat.and_zero] at h2
  generalize x &&& 9223372036854775808 = y at *
  by_cases hs : 9223372036854775808 ≤ x
  · rw [show x / 9223372036854775808 = 1 by omega, Nat.and_self] at h1
    rw [if_pos hs]
    omega
  · rw [show x / 9223372036854775808 = 0 by omega, Nat.zero_and] at h1
    rw [if_neg hs]
    omega
theorem u64_sign (x : Nat) (hx : x < 18446744073709551616) : bits .and .u64 (x : Int) 9223372036854775808 = if 9223372036854775808 ≤ x then 9223372036854775808 else 0 := by
  have h := bits_and_u64_nat x 9223372036854775808 hx (by omega)
  rw [show ((9223372036854775808 : Nat) : Int) = 9223372036854775808 from rfl] at h
  rw [h, and_sign x hx]
  split <;> rfl
/-- A double's three parts. -/
theorem u64_parts (neg : Bool) (e m : Nat) (he : e < 2048) (hm : m < 4503599627370496) :
    bits .or .u64 (bits .or .u64 (if neg = true then 9223372036854775808 else 0) ((e : Int) * 4503599627370496)) (m : Int) = (((if neg = true then 9223372036854775808 else 0) + e * 4503599627370496 + m : Nat) : Int) := by
  have a1 : bits .or .u64 (if neg = true then 9223372036854775808 else 0) ((e : Int) * 4503599627370496) = (((if neg = true then 2048 else 0) + e) * 4503599627370496 : Nat) := by
    have h := bits_or_u64_nat (if neg = true then 9223372036854775808 else 0) (e * 4503599627370496) (by split <;> omega) (by omega)
    have c1 : ((if neg = true then 9223372036854775808 else 0 : Nat) : Int) = if neg = true then 9223372036854775808 else 0 := by split <;> rfl
    have c2 : ((e * 4503599627370496 : Nat) : Int) = (e : Int) * 4503599627370496 := by omega
    rw [c1, c2] at h
    rw [h]
    congr 1
    cases neg
    · simp
    · have := or_low 1 (e * 4503599627370496) 63 (by show _ < 9223372036854775808; omega)
      rw [show 1 * 2 ^ 63 = 9223372036854775808 from rfl] at this
      rw [if_pos rfl, if_pos rfl, this]
      omega
  rw [a1]
  have b1 : ((if neg = true then 2048 else 0) + e) * 4503599627370496 < 18446744073709551616 := by split <;> omega
  rw [bits_or_u64_nat _ m b1 (by omega)]
  have := or_low ((if neg = true then 2048 else 0) + e) m 52 (by show _ < 4503599627370496; omega)
  rw [show 2 ^ 52 = 4503599627370496 from rfl] at this
  rw [this]
  congr 1
  cases neg <;> simp <;> omega
end Bn
end Go.Proofs.YtcclepohmhdpbaaGreatDoor

/- THE PROGRAM's BYTES, READ: numbers. -/
namespace Go.Proofs.YtcclepohmhdpbaaGreatDoor
set_option linter.all false
open Go.RowKit Go.Deep

/-- The reader of bytes, in memory. -/
def RB (w : World) (b : Nat) (l : List UInt8) (ord : Nat) (bad off : Bool) : Prop := VRow w b 165 [.string (bs l), .int .u64 ord, .bool bad, .bool off]
theorem RB.c0 {w : World} {b : Nat} {l : List UInt8} {ord : Nat} {bad off : Bool} (h : RB w b l ord bad off) : w.cell? ⟨b, 0, none⟩ = some (.string (bs l)) := VRow.cell h rfl
theorem RB.c1 {w : World} {b : Nat} {l : List UInt8} {ord : Nat} {bad off : Bool} (h : RB w b l ord bad off) : w.cell? ⟨b, 1, none⟩ = some (.int .u64 ord) := VRow.cell h rfl
theorem RB.c2 {w : World} {b : Nat} {l : List UInt8} {ord : Nat} {bad off : Bool} (h : RB w b l ord bad off) : w.cell? ⟨b, 2, none⟩ = some (.bool bad) := VRow.cell h rfl
theorem RB.c3 {w : World} {b : Nat} {l : List UInt8} {ord : Nat} {bad off : Bool} (h : RB w b l ord bad off) : w.cell? ⟨b, 3, none⟩ = some (.bool off) := VRow.cell h rfl
theorem RB.f {w : World} {b : Nat} {l : List UInt8} {ord : Nat} {bad off : Bool} (h : RB w b l ord bad off) (i : Nat) : w.frozen? ⟨b, i, none⟩ = false := VRow.frozen h i
theorem RB.rest {w : World} {b : Nat} {l : List UInt8} {ord : Nat} {bad off : Bool} (h : RB w b l ord bad off) (t : List UInt8) : RB (w.setCell ⟨b, 0, none⟩ (.string (bs t))) b t ord bad off := VRow.set h 0 _
theorem RB.ord {w : World} {b : Nat} {l : List UInt8} {ord : Nat} {bad off : Bool} (h : RB w b l ord bad off) (o : Nat) : RB (w.setCell ⟨b, 1, none⟩ (.int .u64 o)) b l o bad off := VRow.set h 1 _
theorem RB.bad {w : World} {b : Nat} {l : List UInt8} {ord : Nat} {bad off : Bool} (h : RB w b l ord bad off) (o : Bool) : RB (w.setCell ⟨b, 2, none⟩ (.bool o)) b l ord o off := VRow.set h 2 _
theorem RB.off {w : World} {b : Nat} {l : List UInt8} {ord : Nat} {bad off : Bool} (h : RB w b l ord bad off) (o : Bool) : RB (w.setCell ⟨b, 3, none⟩ (.bool o)) b l ord bad o := VRow.set h 3 _

namespace Bn
theorem num_step (lit : Bool) {l : List UInt8} {n k : Nat} (hk : k < n) (hn : n ≤ l.length) :
    (big ((ord lit (l.take n)).take (k + 1)) : Int) = (big ((ord lit (l.take n)).take k) : Int) * 256 + Tx.at_ l (if lit = true then n - 1 - k else k) := by
  have hq : (ord lit (l.take n)).length = n := by rw [ord_length, List.length_take]; omega
  have e : (ord lit (l.take n)).take (k + 1) = (ord lit (l.take n)).take k ++ [(ord lit (l.take n))[k]'(by omega)] := List.take_succ_eq_append_getElem (by omega)
  have e2 : ((ord lit (l.take n))[k]'(by omega)).toNat = Tx.at_ l (if lit = true then n - 1 - k else k) := by
    cases lit
    · simp only [ord]
      simp only [Bool.false_eq_true, if_false]
      rw [Tx.at_lt (by omega)]
      simp
    · simp only [ord, if_true]
      rw [Tx.at_lt (by omega), List.getElem_reverse, List.getElem_take]
      have : (List.take n l).length - 1 - k = n - 1 - k := by rw [List.length_take]; omega
      simp only [this]
  rw [e, big_snoc, ← e2]
  omega
theorem take_lt (lit : Bool) {l : List UInt8} {n k : Nat} (hk : k < n) (hn : n ≤ 8) (hl : n ≤ l.length) : big ((ord lit (l.take n)).take k) < 72057594037927936 := by
  have h := big_lt ((ord lit (l.take n)).take k)
  have hq : ((ord lit (l.take n)).take k).length ≤ 7 := by rw [List.length_take]; omega
  have : 256 ^ ((ord lit (l.take n)).take k).length ≤ 256 ^ 7 := Nat.pow_le_pow_right (by omega) hq
  have e : 256 ^ 7 = 72057594037927936 := rfl
  omega
theorem num_end (lit : Bool) {l : List UInt8} {n : Nat} (hn : n ≤ l.length) : big ((ord lit (l.take n)).take n) = num lit (l.take n) := by
  unfold num
  rw [List.take_of_length_le]
  rw [ord_length, List.length_take]; omega
theorem byte_close {V V2 : Nat} {a : Int} (hv : V < 72057594037927936) (ha : 0 ≤ a ∧ a ≤ 255) (h : (V2 : Int) = V * 256 + a) : Value.int .u64 (bits .or .u64 ((V : Int) * 256) a) = .int .u64 (V2 : Int) := by
  obtain ⟨b, rfl⟩ := Int.eq_ofNat_of_zero_le ha.1
  rw [u64_byte V b hv (by omega), h]
  congr 1
end Bn

set_option maxHeartbeats 1000000 in
theorem rnum_bad (n : Nat) (l : List UInt8) (o : Nat) (off bad : Bool) (rb : Nat) (w : World) (hr : RB w rb l o bad off) (hb : bad = true ∨ l.length < n) (hl : l.length ≤ 6000) (hn : n ≤ 8) :
    Calls Tryz.prog 220 #[.pointer (some ⟨rb, 0, none⟩), .int .i64 n] w fun e w' => e = .returned (.int .u64 0) ∧ RB w' rb l o true off ∧ Fr (· = rb) w w' := by
  have e0 := bs_size l
  have c0 := hr.c0
  have c2 := hr.c2
  have f2 := hr.f 2
  have HR := hide hr
  clear hr
  cases bad
  · have hb' : l.length < n := hb.resolve_left (by decide)
    clear hb
    go_enter Tryz.func220, Tryz.ntmps220
    go_wp2
    go_ret
    exact ⟨rfl, HR.out.bad true, (Fr.refl (· = rb) _).setCell (p := ⟨rb, 2, none⟩) rfl _⟩
  · clear hb
    go_enter Tryz.func220, Tryz.ntmps220
    go_wp2
    go_ret
    exact ⟨rfl, HR.out.bad true, (Fr.refl (· = rb) _).setCell (p := ⟨rb, 2, none⟩) rfl _⟩

set_option maxRecDepth 100000 in
set_option maxHeartbeats 2000000 in
theorem rnum_ok (n : Nat) (l : List UInt8) (o : Nat) (off : Bool) (rb : Nat) (w : World) (hr : RB w rb l o false off) (hl : ¬ l.length < n) (hl6 : l.length ≤ 6000) (hn : n ≤ 8) (lit : Bool) (hlit : lit = ((o : Int) == 1)) :
    Calls Tryz.prog 220 #[.pointer (some ⟨rb, 0, none⟩), .int .i64 n] w fun e w' => e = .returned (.int .u64 (Bn.num lit (l.take n))) ∧ RB w' rb (l.drop n) o false off ∧ Fr (· = rb) w w' := by
  obtain ⟨e0, e1, e2, e3, e4, e5⟩ := bs_tells l
  have c0 := hr.c0
  have c1 := hr.c1
  have c2 := hr.c2
  have f0 := hr.f 0
  have HR := hide hr
  clear e3 e4 e5 hr
  go_enter Tryz.func220, Tryz.ntmps220
  go_wp2
  go_loop [5, 6] (fun v i => ∃ k : Nat, k ≤ n ∧ i = .int .i64 k ∧ v = .int .u64 (Bn.big ((Bn.ord lit (l.take n)).take k) : Nat)) (fun _ i => n - (intOf i).toNat)
  case atStart => exact ⟨0, Nat.zero_le _, rfl, by simp [Bn.big, Bn.bigA]⟩
  case round =>
    obtain ⟨k, hk, rfl, rfl⟩ := hrel
    by_cases hlt : k < n
    · have HS := hide (Bn.num_step lit hlt (Nat.le_of_not_lt hl))
      have hv := Bn.take_lt lit hlt hn (Nat.le_of_not_lt hl)
      generalize hV : Bn.big ((Bn.ord lit (l.take n)).take k) = V at *
      generalize hV2 : Bn.big ((Bn.ord lit (l.take n)).take (k + 1)) = V2 at *
      have HV2 := hide hV2
      clear hV hV2
      cases lit
      · have ho := hlit.symm
        clear hlit
        have HX : Hid ((V2 : Int) = V * 256 + Tx.at_ l k) := HS.out
        have hat := Tx.at_nn (l := l) (i := k) (by omega)
        clear HS
        go_wp2
        go_round
        case rel => exact ⟨k + 1, by omega, by go_num, by rw [HV2.out]; exact Bn.byte_close hv hat HX.out⟩
        case measure => simp [intOf]; omega
      · have ho := hlit.symm
        clear hlit
        have HX : Hid ((V2 : Int) = V * 256 + Tx.at_ l (n - 1 - k)) := HS.out
        have hat := Tx.at_nn (l := l) (i := n - 1 - k) (by omega)
        clear HS
        go_wp2
        go_round
        case rel => exact ⟨k + 1, by omega, by go_num, by rw [HV2.out]; exact Bn.byte_close hv hat HX.out⟩
        case measure => simp [intOf]; omega
    · have hkn : k = n := by omega
      subst hkn
      have HE := hide (Bn.num_end lit (Nat.le_of_not_lt hl))
      rw [HE.out]
      clear HE
      go_wp2
      go_ret
      exact ⟨rfl, HR.out.rest _, (Fr.refl (· = rb) _).setCell (p := ⟨rb, 0, none⟩) rfl _⟩
end Go.Proofs.YtcclepohmhdpbaaGreatDoor

/- THE PROGRAM's BYTES, READ: units. -/
namespace Go.Proofs.YtcclepohmhdpbaaGreatDoor
set_option linter.all false
open Go.RowKit Go.Deep

def optI : Option Int → Value
  | some k => .tuple #[.int .i64 k, .bool true]
  | none => .tuple #[.int .i64 0, .bool false]

set_option maxRecDepth 100000 in
set_option maxHeartbeats 2000000 in
theorem wunits_any (X : Nat) (w : World) (hX : X < 18446744073709551616) :
    Calls Tryz.prog 257 #[.int .u64 X] w fun e w' => e = .returned (optI (Bn.units X)) ∧ w' = w := by
  by_cases h0 : X = 0
  · subst h0
    go_enter Tryz.func257, Tryz.ntmps257
    go_wp2
    go_ret2
    exact ⟨rfl, rfl⟩
  · have h0b : ((X : Int) == 0) = false := beq_eq_false_iff_ne.2 (by omega)
    have hE : X / 4503599627370496 % 2048 < 2048 := Nat.mod_lt _ (by omega)
    have q1 : bits .and .u64 ((X : Int) / 4503599627370496) 2047 = ((X / 4503599627370496 % 2048 : Nat) : Int) := by
      have := Bn.u64_mask (X / 4503599627370496) 11 2047 (by omega) rfl (by omega)
      simpa using this
    have HU := hide (show Bn.units X = _ by unfold Bn.units; rw [if_neg h0])
    obtain ⟨E, hE1⟩ : ∃ E, E = X / 4503599627370496 % 2048 := ⟨_, rfl⟩
    rw [← hE1] at HU q1 hE
    have HE := hide hE1
    clear hE1
    by_cases h1 : E < 1019
    · have HV : Hid (Bn.units X = none) := by rw [HU.out, if_pos (.inl h1)]; exact rfl
      clear HU
      go_enter Tryz.func257, Tryz.ntmps257
      go_wp2
      go_ret2
      rw [HV.out]
      exact ⟨rfl, rfl⟩
    · by_cases h2 : 1071 < E
      · have HV : Hid (Bn.units X = none) := by rw [HU.out, if_pos (.inr h2)]; exact rfl
        clear HU
        go_enter Tryz.func257, Tryz.ntmps257
        go_wp2
        go_ret2
        rw [HV.out]
        exact ⟨rfl, rfl⟩
      · obtain ⟨p, hp⟩ : ∃ p, E = p + 1019 := ⟨E - 1019, by omega⟩
        have hp2 : p ≤ 52 := by omega
        have e1 : 1071 - E = 52 - p := by omega
        have e2 : (E : Int) = (p : Int) + 1019 := by omega
        have e3 : ¬ (E < 1019 ∨ 1071 < E) := by omega
        rw [e2] at q1
        rw [if_neg e3, e1] at HU
        clear e1 e2 e3 hp h1 h2 hE HE
        have q2 : bits .and .u64 (X : Int) 4503599627370495 = ((X % 4503599627370496 : Nat) : Int) := by
          have := Bn.u64_mask X 52 4503599627370495 hX rfl (by omega)
          simpa using this
        have q3 := Bn.u64_first (X % 4503599627370496) (Nat.mod_lt _ (by omega))
        have hM : X % 4503599627370496 + 4503599627370496 < 9007199254740992 := by omega
        obtain ⟨L, hL⟩ : ∃ L, L = X % 4503599627370496 := ⟨_, rfl⟩
        rw [← hL] at q2 q3 HU hM
        obtain ⟨M, hM1⟩ : ∃ M, M = L + 4503599627370496 := ⟨_, rfl⟩
        rw [← hM1] at q3 HU hM
        clear hL hM1
        have q4 := Bn.u64_sign X hX
        obtain ⟨Q, hQ⟩ : ∃ Q, Q = M / 2 ^ (52 - p) := ⟨_, rfl⟩
        obtain ⟨S, hS⟩ : ∃ S, S = Q * 2 ^ (52 - p) := ⟨_, rfl⟩
        have r1 : (M : Int) / 2 ^ (52 - p) = (Q : Int) := by rw [hQ]; simp
        have r2 : (Q : Int) * 2 ^ (52 - p) = (S : Int) := by rw [hS]; simp
        have hSM : S ≤ M := by rw [hS, hQ]; exact Nat.div_mul_le_self _ _
        have hQM : Q ≤ M := by rw [hQ]; exact Nat.div_le_self _ _
        have HSM : Hid (M % 2 ^ (52 - p) = M - S) := by
          have := Nat.div_add_mod M (2 ^ (52 - p))
          rw [Nat.mul_comm, ← hQ, ← hS] at this
          show _ = _
          omega
        rw [← hQ, HSM.out] at HU
        clear hQ hS HSM
        by_cases hs : S = M
        · by_cases hq : 32768 < Q
          · have HV : Hid (Bn.units X = none) := by rw [HU.out, if_pos (.inr hq)]; exact rfl
            clear HU
            subst hs
            have hqi : (32768 : Int) < (Q : Int) := by omega
            go_enter Tryz.func257, Tryz.ntmps257
            go_wp2
            go_ret2
            rw [HV.out]
            exact ⟨rfl, rfl⟩
          · rw [if_neg (by omega)] at HU
            subst hs
            have hqi : ¬ (32768 : Int) < (Q : Int) := by omega
            by_cases hx : 9223372036854775808 ≤ X
            · rw [if_pos hx] at HU q4
              go_enter Tryz.func257, Tryz.ntmps257
              go_wp2
              go_ret2
              rw [HU.out]
              exact ⟨rfl, rfl⟩
            · rw [if_neg hx] at HU q4
              go_enter Tryz.func257, Tryz.ntmps257
              go_wp2
              go_ret2
              rw [HU.out]
              exact ⟨rfl, rfl⟩
        · have HV : Hid (Bn.units X = none) := by rw [HU.out, if_pos (.inl (by omega))]; exact rfl
          have hne : ((S : Int) == (M : Int)) = false := beq_eq_false_iff_ne.2 (by omega)
          have hlt : S < M := by omega
          clear HU
          go_enter Tryz.func257, Tryz.ntmps257
          go_wp2
          go_ret2
          rw [HV.out]
          exact ⟨rfl, rfl⟩
end Go.Proofs.YtcclepohmhdpbaaGreatDoor

/- THE PROGRAM's BYTES, READ: coordinates, heads. -/
namespace Go.Proofs.YtcclepohmhdpbaaGreatDoor
set_option linter.all false
open Go.RowKit Go.Deep

theorem RB.facts {w : World} {b : Nat} {l : List UInt8} {o : Nat} {bad off : Bool} (h : RB w b l o bad off) :
    w.cell? ⟨b, 0, none⟩ = some (.string (bs l)) ∧ w.cell? ⟨b, 1, none⟩ = some (.int .u64 o) ∧ w.cell? ⟨b, 2, none⟩ = some (.bool bad) ∧ w.cell? ⟨b, 3, none⟩ = some (.bool off) ∧ w.frozen? ⟨b, 0, none⟩ = false ∧ w.frozen? ⟨b, 1, none⟩ = false ∧ w.frozen? ⟨b, 2, none⟩ = false ∧ w.frozen? ⟨b, 3, none⟩ = false :=
  ⟨h.c0, h.c1, h.c2, h.c3, h.f 0, h.f 1, h.f 2, h.f 3⟩

set_option maxHeartbeats 1000000 in
theorem rcoord_bad (l : List UInt8) (o : Nat) (off bad : Bool) (rb : Nat) (w : World) (hr : RB w rb l o bad off) (hb : bad = true ∨ l.length < 8) (hl : l.length ≤ 6000) :
    Calls Tryz.prog 247 #[.pointer (some ⟨rb, 0, none⟩)] w fun e w' => e = .returned (.int .i64 0) ∧ RB w' rb l o true off ∧ Fr (· = rb) w w' := by
  have HR := hide hr
  have HB := hide hb
  have HU : Hid (optI (Bn.units 0) = .tuple #[.int .i64 0, .bool true]) := rfl
  clear hr hb
  go_enter Tryz.func247, Tryz.ntmps247
  go_wp2_with fail
  refine (rnum_bad 8 l o off bad rb _ HR.out HB.out hl (by omega)).mono ?_
  rintro e w1 ⟨rfl, h1, u1⟩
  replace h1 := hide h1
  replace u1 := hide u1
  go_wp2_with fail
  refine (wunits_any 0 _ (by omega)).mono ?_
  rintro e w2 ⟨rfl, rfl⟩
  rw [HU.out]
  go_wp2
  go_ret
  exact ⟨rfl, h1.out, u1.out⟩

set_option maxHeartbeats 1000000 in
theorem rcoord_ok (l : List UInt8) (o : Nat) (off : Bool) (rb : Nat) (w : World) (hr : RB w rb l o false off) (hl : ¬ l.length < 8) (hl6 : l.length ≤ 6000) (lit : Bool) (hlit : lit = ((o : Int) == 1)) :
    Calls Tryz.prog 247 #[.pointer (some ⟨rb, 0, none⟩)] w fun e w' => e = .returned (.int .i64 (Bn.coord (Bn.num lit (l.take 8)))) ∧ RB w' rb (l.drop 8) o false (off || (Bn.units (Bn.num lit (l.take 8))).isNone) ∧ Fr (· = rb) w w' := by
  have HR := hide hr
  have HL := hide hlit
  clear hr hlit
  have hX : Bn.num lit (l.take 8) < 18446744073709551616 := Bn.num_lt8 (by rw [List.length_take]; omega)
  obtain ⟨X, hX1⟩ : ∃ X, X = Bn.num lit (l.take 8) := ⟨_, rfl⟩
  rw [← hX1] at hX ⊢
  have HX := hide hX1
  clear hX1
  go_enter Tryz.func247, Tryz.ntmps247
  go_wp2_with fail
  refine (rnum_ok 8 l o off rb _ HR.out hl hl6 (by omega) lit HL.out).mono ?_
  rintro e w1 ⟨rfl, h1, u1⟩
  rw [← HX.out]
  obtain ⟨-, -, -, c3, -, -, -, f3⟩ := h1.facts
  replace h1 := hide h1
  replace u1 := hide u1
  go_wp2_with fail
  refine (wunits_any X _ hX).mono ?_
  rintro e w2 ⟨rfl, rfl⟩
  obtain ⟨U, hU⟩ : ∃ U, U = Bn.units X := ⟨_, rfl⟩
  rw [← hU]
  have HU := hide hU
  clear hU
  cases U with
  | none =>
    rw [optI]
    go_wp2
    go_ret
    unfold Bn.coord
    rw [← HU.out]
    refine ⟨rfl, ?_, u1.out.setCell (p := ⟨rb, 3, none⟩) rfl _⟩
    have := h1.out.off true
    simpa using this
  | some k =>
    rw [optI]
    go_wp2
    go_ret
    unfold Bn.coord
    rw [← HU.out]
    refine ⟨rfl, ?_, u1.out⟩
    have := h1.out
    simpa using this

namespace Bn
theorem num_one (lit : Bool) {l : List UInt8} (h : ¬ l.length < 1) : num lit (l.take 1) = num false (l.take 1) := by
  cases l with
  | nil => simp at h
  | cons c t => cases lit <;> rfl
end Bn

set_option maxHeartbeats 4000000 in
theorem rgeom_any (kind : Nat) (hk : 0 < kind) (hk2 : kind < 100) (l : List UInt8) (o0 : Nat) (off : Bool) (rb : Nat) (w : World) (hr : RB w rb l o0 false off) (hl : l.length ≤ 6000) :
    Calls Tryz.prog 176 #[.pointer (some ⟨rb, 0, none⟩), .int .u64 kind] w fun e w' => ∃ (v : Nat) (l' : List UInt8) (o : Nat) (bad : Bool), e = .returned (.int .u64 v) ∧ RB w' rb l' o bad off ∧ Fr (· = rb) w w' ∧ Bn.head kind l = (if bad = true then none else some (((o : Int) == 1), v, l')) ∧ v < 4294967296 ∧ l'.length ≤ 6000 := by
  have HR := hide hr
  clear hr
  have kne : ((0 : Int) == (kind : Int)) = false := beq_eq_false_iff_ne.2 (by omega)
  by_cases hA : l.length < 1
  · have HH : Hid (Bn.head kind l = none) := by show _ = _; unfold Bn.head; rw [Bn.cut_none hA]; rfl
    go_enter Tryz.func176, Tryz.ntmps176
    go_wp2_with fail
    refine (rnum_bad 1 l o0 off false rb _ HR.out (.inr hA) hl (by omega)).mono ?_
    rintro e w1 ⟨rfl, h1, u1⟩
    obtain ⟨a0, a1, a2, a3, a4, a5, a6, a7⟩ := h1.facts
    have h2 := h1.ord 0
    obtain ⟨b0, b1, b2, b3, b4, b5, b6, b7⟩ := h2.facts
    replace h2 := hide h2
    replace u1 := hide u1
    clear h1
    go_wp2_with fail
    refine (rnum_bad 4 l 0 off true rb _ h2.out (.inl rfl) hl (by omega)).mono ?_
    rintro e w2 ⟨rfl, h3, u3⟩
    obtain ⟨a0', a1', a2', a3', a4', a5', a6', a7'⟩ := h3.facts
    have h4 := hide (h3.bad true)
    replace u3 := hide u3
    clear h3
    go_wp2_with fail
    refine (rnum_bad 4 l 0 off true rb _ h4.out (.inl rfl) hl (by omega)).mono ?_
    rintro e w3 ⟨rfl, h5, u5⟩
    replace h5 := hide h5
    replace u5 := hide u5
    go_wp2
    go_ret
    exact ⟨0, l, 0, true, rfl, h5.out, (((u1.out.setCell (p := ⟨rb, 1, none⟩) rfl _).trans u3.out).setCell (p := ⟨rb, 2, none⟩) rfl _).trans u5.out, HH.out, by omega, hl⟩
  · have HN := hide (Bn.num_one ((o0 : Int) == 1) hA)
    have HH := hide (show Bn.head kind l = _ by unfold Bn.head; rw [Bn.cut_some hA, Option.bind_some])
    have hc : Bn.num false (l.take 1) < 256 := by
      have := Bn.num_lt false (l.take 1)
      rw [List.length_take, Nat.min_eq_left (by omega)] at this
      simpa using this
    obtain ⟨c, hc1⟩ : ∃ c, c = Bn.num false (l.take 1) := ⟨_, rfl⟩
    obtain ⟨t, ht⟩ : ∃ t, t = l.drop 1 := ⟨_, rfl⟩
    have htl : t.length ≤ 6000 := by rw [ht]; simp; omega
    rw [← hc1] at HN HH hc
    rw [← ht] at HH
    have HT := hide ht
    clear hc1 ht
    by_cases hB : 1 < c
    · have HH' : Hid (Bn.head kind l = none) := by rw [HH.out, if_pos hB]; exact rfl
      have c0b : ((c : Int) != 0) = true := bne_iff_ne.2 (by omega)
      have c1b : ((c : Int) != 1) = true := bne_iff_ne.2 (by omega)
      clear HH
      go_enter Tryz.func176, Tryz.ntmps176
      go_wp2_with fail
      refine (rnum_ok 1 l o0 off rb _ HR.out hA hl (by omega) _ rfl).mono ?_
      rintro e w1 ⟨rfl, h1, u1⟩
      rw [HN.out]
      rw [← HT.out] at h1
      obtain ⟨a0, a1, a2, a3, a4, a5, a6, a7⟩ := h1.facts
      have h2 := h1.ord c
      obtain ⟨b0, b1, b2, b3, b4, b5, b6, b7⟩ := h2.facts
      have h2b := hide (h2.bad true)
      replace u1 := hide u1
      clear h1 h2
      go_wp2_with fail
      refine (rnum_bad 4 t c off true rb _ h2b.out (.inl rfl) htl (by omega)).mono ?_
      rintro e w2 ⟨rfl, h3, u3⟩
      obtain ⟨a0', a1', a2', a3', a4', a5', a6', a7'⟩ := h3.facts
      have h4 := hide (h3.bad true)
      replace u3 := hide u3
      clear h3
      go_wp2_with fail
      refine (rnum_bad 4 t c off true rb _ h4.out (.inl rfl) htl (by omega)).mono ?_
      rintro e w3 ⟨rfl, h5, u5⟩
      replace h5 := hide h5
      replace u5 := hide u5
      go_wp2
      go_ret
      exact ⟨0, t, c, true, rfl, h5.out, ((((u1.out.setCell (p := ⟨rb, 1, none⟩) rfl _).setCell (p := ⟨rb, 2, none⟩) rfl _).trans u3.out).setCell (p := ⟨rb, 2, none⟩) rfl _).trans u5.out, HH'.out, by omega, htl⟩
    · rw [if_neg hB] at HH
      have HL : Hid ((c == 1) = ((c : Int) == 1)) := by
        show _ = _
        rcases (show c = 0 ∨ c = 1 by omega) with rfl | rfl <;> rfl
      rw [HL.out] at HH
      have hd : (((c : Int) != 0) = false) ∨ (((c : Int) != 0) = true ∧ ((c : Int) != 1) = false) := by
        rcases (show c = 0 ∨ c = 1 by omega) with rfl | rfl
        · exact .inl rfl
        · exact .inr ⟨rfl, rfl⟩
      by_cases hC : t.length < 4
      · have HH' : Hid (Bn.head kind l = none) := by rw [HH.out, Bn.cut_none hC]; exact rfl
        clear HH
        rcases hd with d0 | ⟨d0, d1⟩
        all_goals
          go_enter Tryz.func176, Tryz.ntmps176
          go_wp2_with fail
          refine (rnum_ok 1 l o0 off rb _ HR.out hA hl (by omega) _ rfl).mono ?_
          rintro e w1 ⟨rfl, h1, u1⟩
          rw [HN.out]
          rw [← HT.out] at h1
          obtain ⟨a0, a1, a2, a3, a4, a5, a6, a7⟩ := h1.facts
          have h2 := hide (h1.ord c)
          obtain ⟨b0, b1, b2, b3, b4, b5, b6, b7⟩ := RB.facts (h1.ord c)
          replace u1 := hide u1
          clear h1
          go_wp2_with fail
          refine (rnum_bad 4 t _ off false rb _ h2.out (.inr hC) htl (by omega)).mono ?_
          rintro e w2 ⟨rfl, h3, u3⟩
          obtain ⟨a0', a1', a2', a3', a4', a5', a6', a7'⟩ := h3.facts
          have h4 := hide (h3.bad true)
          replace u3 := hide u3
          clear h3
          go_wp2_with fail
          refine (rnum_bad 4 t _ off true rb _ h4.out (.inl rfl) htl (by omega)).mono ?_
          rintro e w3 ⟨rfl, h5, u5⟩
          replace h5 := hide h5
          replace u5 := hide u5
          go_wp2
          go_ret
          exact ⟨0, t, _, true, rfl, h5.out, (((u1.out.setCell (p := ⟨rb, 1, none⟩) rfl _).trans u3.out).setCell (p := ⟨rb, 2, none⟩) rfl _).trans u5.out, HH'.out, by omega, htl⟩
      · rw [Bn.cut_some hC, Option.bind_some] at HH
        have hy : Bn.num ((c : Int) == 1) (t.take 4) < 4294967296 := Bn.num_lt4 (by rw [List.length_take]; omega)
        obtain ⟨y, hy1⟩ : ∃ y, y = Bn.num ((c : Int) == 1) (t.take 4) := ⟨_, rfl⟩
        obtain ⟨u, hu⟩ : ∃ u, u = t.drop 4 := ⟨_, rfl⟩
        have hul : u.length ≤ 6000 := by rw [hu]; simp; omega
        rw [← hy1] at HH hy
        rw [← hu] at HH
        have HY := hide hy1
        have HU := hide hu
        clear hy1 hu
        by_cases hD : y = kind
        · rw [if_neg (by simpa using hD)] at HH
          have hDb : ((y : Int) != (kind : Int)) = false := bne_eq_false_iff_eq.2 (by omega)
          by_cases hE : u.length < 4
          · have HH' : Hid (Bn.head kind l = none) := by rw [HH.out, Bn.cut_none hE]; exact rfl
            clear HH
            rcases hd with d0 | ⟨d0, d1⟩
            all_goals
              go_enter Tryz.func176, Tryz.ntmps176
              go_wp2_with fail
              refine (rnum_ok 1 l o0 off rb _ HR.out hA hl (by omega) _ rfl).mono ?_
              rintro e w1 ⟨rfl, h1, u1⟩
              rw [HN.out]
              rw [← HT.out] at h1
              obtain ⟨a0, a1, a2, a3, a4, a5, a6, a7⟩ := h1.facts
              have h2 := hide (h1.ord c)
              obtain ⟨b0, b1, b2, b3, b4, b5, b6, b7⟩ := RB.facts (h1.ord c)
              replace u1 := hide u1
              clear h1
              go_wp2_with fail
              refine (rnum_ok 4 t _ off rb _ h2.out hC htl (by omega) _ rfl).mono ?_
              rintro e w2 ⟨rfl, h3, u3⟩
              rw [← HY.out]
              rw [← HU.out] at h3
              obtain ⟨a0', a1', a2', a3', a4', a5', a6', a7'⟩ := h3.facts
              have h4 := hide (h3.bad true)
              replace u3 := hide u3
              replace h3 := hide h3
              go_wp2_with fail
              refine (rnum_bad 4 u _ off false rb _ h3.out (.inr hE) hul (by omega)).mono ?_
              rintro e w3 ⟨rfl, h5, u5⟩
              replace h5 := hide h5
              replace u5 := hide u5
              go_wp2
              go_ret
              exact ⟨0, u, _, true, rfl, h5.out, ((u1.out.setCell (p := ⟨rb, 1, none⟩) rfl _).trans u3.out).trans u5.out, HH'.out, by omega, hul⟩
          · rw [Bn.cut_some hE, Option.bind_some] at HH
            have hz : Bn.num ((c : Int) == 1) (u.take 4) < 4294967296 := Bn.num_lt4 (by rw [List.length_take]; omega)
            rcases hd with d0 | ⟨d0, d1⟩
            all_goals
              go_enter Tryz.func176, Tryz.ntmps176
              go_wp2_with fail
              refine (rnum_ok 1 l o0 off rb _ HR.out hA hl (by omega) _ rfl).mono ?_
              rintro e w1 ⟨rfl, h1, u1⟩
              rw [HN.out]
              rw [← HT.out] at h1
              obtain ⟨a0, a1, a2, a3, a4, a5, a6, a7⟩ := h1.facts
              have h2 := hide (h1.ord c)
              obtain ⟨b0, b1, b2, b3, b4, b5, b6, b7⟩ := RB.facts (h1.ord c)
              replace u1 := hide u1
              clear h1
              go_wp2_with fail
              refine (rnum_ok 4 t _ off rb _ h2.out hC htl (by omega) _ rfl).mono ?_
              rintro e w2 ⟨rfl, h3, u3⟩
              rw [← HY.out]
              rw [← HU.out] at h3
              obtain ⟨a0', a1', a2', a3', a4', a5', a6', a7'⟩ := h3.facts
              have h4 := hide (h3.bad true)
              replace u3 := hide u3
              replace h3 := hide h3
              go_wp2_with fail
              refine (rnum_ok 4 u _ off rb _ h3.out hE hul (by omega) _ rfl).mono ?_
              rintro e w3 ⟨rfl, h5, u5⟩
              replace h5 := hide h5
              replace u5 := hide u5
              go_wp2
              go_ret
              exact ⟨_, _, _, false, rfl, h5.out, ((u1.out.setCell (p := ⟨rb, 1, none⟩) rfl _).trans u3.out).trans u5.out, HH.out, hz, by simp; omega⟩
        · rw [if_pos (by simpa using hD)] at HH
          have hDb : ((y : Int) != (kind : Int)) = true := bne_iff_ne.2 (by omega)
          rcases hd with d0 | ⟨d0, d1⟩
          all_goals
            go_enter Tryz.func176, Tryz.ntmps176
            go_wp2_with fail
            refine (rnum_ok 1 l o0 off rb _ HR.out hA hl (by omega) _ rfl).mono ?_
            rintro e w1 ⟨rfl, h1, u1⟩
            rw [HN.out]
            rw [← HT.out] at h1
            obtain ⟨a0, a1, a2, a3, a4, a5, a6, a7⟩ := h1.facts
            have h2 := hide (h1.ord c)
            obtain ⟨b0, b1, b2, b3, b4, b5, b6, b7⟩ := RB.facts (h1.ord c)
            replace u1 := hide u1
            clear h1
            go_wp2_with fail
            refine (rnum_ok 4 t _ off rb _ h2.out hC htl (by omega) _ rfl).mono ?_
            rintro e w2 ⟨rfl, h3, u3⟩
            rw [← HY.out]
            rw [← HU.out] at h3
            obtain ⟨a0', a1', a2', a3', a4', a5', a6', a7'⟩ := h3.facts
            have h4 := hide (h3.bad true)
            replace u3 := hide u3
            replace h3 := hide h3
            go_wp2_with fail
            refine (rnum_bad 4 u _ off true rb _ h4.out (.inl rfl) hul (by omega)).mono ?_
            rintro e w3 ⟨rfl, h5, u5⟩
            replace h5 := hide h5
            replace u5 := hide u5
            go_wp2
            go_ret
            exact ⟨0, u, _, true, rfl, h5.out, (((u1.out.setCell (p := ⟨rb, 1, none⟩) rfl _).trans u3.out).setCell (p := ⟨rb, 2, none⟩) rfl _).trans u5.out, HH.out, by omega, hul⟩
end Go.Proofs.YtcclepohmhdpbaaGreatDoor
