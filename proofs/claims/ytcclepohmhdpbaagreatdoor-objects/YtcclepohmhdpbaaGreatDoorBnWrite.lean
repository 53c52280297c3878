import Derived.Test.YtcclepohmhdpbaaGreatDoorBnMath
import Derived.Laws.Bits64b
import Derived.Test.YtcclepohmhdpbaaGreatDoorStr
import Derived.Test.YtcclepohmhdpbaaGreatDoorFrame
import Derived.Laws.IdiomStrings
/- BYTES, WRITTEN: the plain mathematics. -/
namespace Go.Proofs.YtcclepohmhdpbaaGreatDoor
set_option linter.all false

namespace Bn

/-- So many bytes of a number, the lowest first. -/
def low : Nat → Nat → List UInt8
  | 0, _ => []
  | n + 1, v => UInt8.ofNat (v % 256) :: low n (v / 256)
def put (lit : Bool) (n v : Nat) : List UInt8 := if lit = true then low n v else (low n v).reverse
theorem low_length (n v : Nat) : (low n v).length = n := by
  induction n generalizing v with
  | zero => rfl
  | succ n ih => simp [low, ih]
theorem put_length (lit : Bool) (n v : Nat) : (put lit n v).length = n := by unfold put; split <;> simp [low_length]
theorem low_add (m n v : Nat) : low (m + n) v = low m v ++ low n (v / 256 ^ m) := by
  induction m generalizing v with
  | zero => simp [low]
  | succ m ih =>
    rw [show m + 1 + n = (m + n) + 1 by omega]
    simp only [low, List.cons_append, ih]
    rw [Nat.div_div_eq_div_mul, Nat.pow_succ, Nat.mul_comm 256]
theorem low_mod (n v : Nat) : low n (v % 256 ^ n) = low n v := by
  induction n generalizing v with
  | zero => rfl
  | succ n ih =>
    simp only [low]
    have h1 : v % 256 ^ (n + 1) % 256 = v % 256 := by rw [Nat.pow_succ]; exact Nat.mod_mod_of_dvd _ (Nat.dvd_mul_left _ _)
    have h2 : v % 256 ^ (n + 1) / 256 = v / 256 % 256 ^ n := by rw [Nat.pow_succ, Nat.mul_comm]; exact Nat.mod_mul_right_div_self _ _ _
    rw [h1, h2, ih]
theorem low_halves (hi lo : Nat) (h : lo < 4294967296) : low 8 (hi * 4294967296 + lo) = low 4 lo ++ low 4 hi := by
  rw [show 8 = 4 + 4 from rfl, low_add]
  congr 1
  · rw [← low_mod]; congr 1; show (hi * 4294967296 + lo) % 4294967296 = lo; omega
  · congr 1; show (hi * 4294967296 + lo) / 4294967296 = hi; omega
theorem put_halves (lit : Bool) (hi lo : Nat) (h : lo < 4294967296) : put lit 8 (hi * 4294967296 + lo) = if lit = true then put lit 4 lo ++ put lit 4 hi else put lit 4 hi ++ put lit 4 lo := by
  cases lit
  · show (low 8 _).reverse = (low 4 hi).reverse ++ (low 4 lo).reverse
    rw [low_halves _ _ h, List.reverse_append]
  · show low 8 _ = low 4 lo ++ low 4 hi
    rw [low_halves _ _ h]

/-- How often a number is doubled till its first bit stands at 2^52. -/
def sh : Nat → Nat → Nat
  | 0, _ => 0
  | f + 1, k => if k < 4503599627370496 then sh f (2 * k) + 1 else 0
def dblOf (neg : Bool) (k j : Nat) : Nat := (if neg = true then 9223372036854775808 else 0) + (1071 - j) * 4503599627370496 + (k * 2 ^ j - 4503599627370496)
/-- The bits of the double that so many units are. -/
def dbl (u : Int) : Nat := if u = 0 then 0 else dblOf (decide (u < 0)) u.natAbs (sh 60 u.natAbs)
theorem sh_step {f k i a : Nat} (h : sh 60 k = i + sh (f + 1) a) (ha : a < 4503599627370496) : sh 60 k = (i + 1) + sh f (2 * a) := by
  rw [h, sh, if_pos ha]; omega
theorem sh_end {f k i a : Nat} (h : sh 60 k = i + sh (f + 1) a) (ha : ¬ a < 4503599627370496) : sh 60 k = i := by
  rw [h, sh, if_neg ha]; omega

def geom (lit : Bool) (kind n : Nat) : List UInt8 := put lit 1 (if lit = true then 1 else 0) ++ put lit 4 kind ++ put lit 4 n
def ptT (lit : Bool) (p : Pnt) : List UInt8 := put lit 8 (dbl p.1) ++ put lit 8 (dbl p.2)
def ringT (lit : Bool) (r : Ring) : List UInt8 := put lit 4 r.length ++ r.flatMap (ptT lit)
def polyT (lit : Bool) (l : Poly) : List UInt8 := geom lit 3 l.length ++ l.flatMap (ringT lit)
def setT (lit : Bool) (m : Mult) : List UInt8 := geom lit 6 m.length ++ m.flatMap (polyT lit)
theorem geom_length (lit : Bool) (kind n : Nat) : (geom lit kind n).length = 9 := by simp [geom, put_length]
theorem ptT_length (lit : Bool) (p : Pnt) : (ptT lit p).length = 16 := by simp [ptT, put_length]
theorem fm_le {α : Type} (f : α → List UInt8) (b : Nat) : ∀ l : List α, (∀ a ∈ l, (f a).length ≤ b) → (l.flatMap f).length ≤ l.length * b
  | [], _ => by simp
  | a :: t, h => by
    have h1 := fm_le f b t fun x hx => h x (List.mem_cons_of_mem _ hx)
    have h2 := h a (by simp)
    simp only [List.flatMap_cons, List.length_append, List.length_cons, Nat.add_mul]
    omega
theorem ringT_le (lit : Bool) {r : Ring} (h : r.length ≤ 6000) : (ringT lit r).length ≤ 100000 := by
  have := fm_le (ptT lit) 16 r fun p _ => Nat.le_of_eq (ptT_length lit p)
  simp only [ringT, List.length_append, put_length]
  omega
theorem polyT_le (lit : Bool) {l : Poly} (h : okL l) : (polyT lit l).length ≤ 600000100 := by
  have := fm_le (ringT lit) 100000 l fun r hr => ringT_le lit (h.2 r hr).1
  have := h.1
  simp only [polyT, List.length_append, geom_length]
  omega
theorem fm_step {α : Type} (f : α → List UInt8) {l : List α} {n : Nat} {a : α} (h : l[n]? = some a) : (l.drop n).flatMap f = f a ++ (l.drop (n + 1)).flatMap f := by
  have hn : n < l.length := Pl.lt_of_some h
  rw [List.drop_eq_getElem_cons hn]
  have : l[n] = a := by rw [List.getElem?_eq_getElem hn] at h; exact Option.some.inj h
  rw [this]; rfl
theorem fm_end {α : Type} (f : α → List UInt8) {l : List α} {n : Nat} (h : ¬ n < l.length) : (l.drop n).flatMap f = [] := by
  rw [List.drop_of_length_le (Nat.le_of_not_lt h)]; rfl
end Bn
end Go.Proofs.YtcclepohmhdpbaaGreatDoor

/- BYTES: bits of unsigned numbers, as arithmetic. -/
namespace Go.Proofs.YtcclepohmhdpbaaGreatDoor
set_option linter.all false

namespace Bn
theorem or_low (a b i : Nat) (hb : b < 2 ^ i) : (a * 2 ^ i) ||| b = a * 2 ^ i + b := by
  rw [Nat.mul_comm]
  exact (Nat.two_pow_add_eq_or_of_lt hb a).symm
/-- One byte more. -/
theorem u64_byte (v b : Nat) (hv : v < 72057594037927936) (hb : b < 256) : bits .or .u64 ((v : Int) * 256) (b : Int) = ((v * 256 + b : Nat) : Int) := by
  have h := bits_or_u64_nat (v * 256) b (by omega) (by omega)
  have e : ((v * 256 : Nat) : Int) = (v : Int) * 256 := by omega
  rw [e] at h
  rw [h, show 256 = 2 ^ 8 from rfl, or_low v b 8 hb]
theorem u64_mask (x : Nat) (n m : Nat) (hx : x < 18446744073709551616) (hm : m = 2 ^ n - 1) (hn : m < 18446744073709551616) : bits .and .u64 (x : Int) (m : Int) = ((x % 2 ^ n : Nat) : Int) := by
  rw [bits_and_u64_nat x m hx hn, hm, Nat.and_two_pow_sub_one_eq_mod]
theorem u64_first (x : Nat) (hx : x < 4503599627370496) : bits .or .u64 (x : Int) 4503599627370496 = ((x + 4503599627370496 : Nat) : Int) := by
  have h := bits_or_u64_nat x 4503599627370496 (by omega) (by omega)
  rw [show ((4503599627370496 : Nat) : Int) = 4503599627370496 from rfl] at h
  rw [h, Nat.or_comm]
  have := or_low 1 x 52 (by simpa using hx)
  simp only [Nat.one_mul, show 2 ^ 52 = 4503599627370496 from rfl] at this
  rw [this, Nat.add_comm]
theorem and_sign (x : Nat) (hx : x < 18446744073709551616) : x &&& 9223372036854775808 = if 9223372036854775808 ≤ x then 9223372036854775808 else 0 := by
  have h1 : (x &&& 2 ^ 63) / 2 ^ 63 = x / 2 ^ 63 &&& 2 ^ 63 / 2 ^ 63 := Nat.and_div_two_pow
  have h2 : (x &&& 2 ^ 63) % 2 ^ 63 = x % 2 ^ 63 &&& 2 ^ 63 % 2 ^ 63 := Nat.and_mod_two_pow
  rw [show (2 ^ 63 : Nat) = 9223372036854775808 from rfl] at h1 h2
  rw [show (9223372036854775808 : Nat) / 9223372036854775808 = 1 from rfl] at h1
  rw [show (9223372036854775808 : Nat) % 9223372036854775808 = 0 from rfl, Nat.and_zero] at h2
  generalize x &&& 9223372036854775808 = y at *
  by_cases hs : 9223372036854775808 ≤ x
  · rw [show x / 9223372036854775808 = 1 by omega, Nat.and_self] at h1
    rw [if_pos hs]
    omega
  · rw [show x / 9223372036854775808 = 0 by omega, Nat.zero_and] at h1
    rw [if_neg hs]
    omega
theorem u64_sign (x : Nat) (hx : x < 18446744073709551616) : bits .and .u64 (x : Int) 9223372036854775808 = if 9223372036854775808 ≤ x then 9223372036854775808 else 0 := by
  have h := bits_and_u64_nat x 9223372036854775808 hx (by omega)
  rw [show ((9223372036854775808 : Nat) : Int) = 9223372036854775808 from rfl] at h
  rw [h, and_sign x hx]
  split <;> rfl
/-- A double's three parts. -/
theorem u64_parts (neg : Bool) (e m : Nat) (he : e < 2048) (hm : m < 4503599627370496) :
    bits .or .u64 (bits .or .u64 (if neg = true then 9223372036854775808 else 0) ((e : Int) * 4503599627370496)) (m : Int) = (((if neg = true then 9223372036854775808 else 0) + e * 4503599627370496 + m : Nat) : Int) := by
  have a1 : bits .or .u64 (if neg = true then 9223372036854775808 else 0) ((e : Int) * 4503599627370496) = (((if neg = true then 2048 else 0) + e) * 4503599627370496 : Nat) := by
    have h := bits_or_u64_nat (if neg = true then 9223372036854775808 else 0) (e * 4503599627370496) (by split <;> omega) (by omega)
    have c1 : ((if neg = true then 9223372036854775808 else 0 : Nat) : Int) = if neg = true then 9223372036854775808 else 0 := by split <;> rfl
    have c2 : ((e * 4503599627370496 : Nat) : Int) = (e : Int) * 4503599627370496 := by omega
    rw [c1, c2] at h
    rw [h]
    congr 1
    cases neg
    · simp
    · have := or_low 1 (e * 4503599627370496) 63 (by show _ < 9223372036854775808; omega)
      rw [show 1 * 2 ^ 63 = 9223372036854775808 from rfl] at this
      rw [if_pos rfl, if_pos rfl, this]
      omega
  rw [a1]
  have b1 : ((if neg = true then 2048 else 0) + e) * 4503599627370496 < 18446744073709551616 := by split <;> omega
  rw [bits_or_u64_nat _ m b1 (by omega)]
  have := or_low ((if neg = true then 2048 else 0) + e) m 52 (by show _ < 4503599627370496; omega)
  rw [show 2 ^ 52 = 4503599627370496 from rfl] at this
  rw [this]
  congr 1
  cases neg <;> simp <;> omega
end Bn
end Go.Proofs.YtcclepohmhdpbaaGreatDoor

/- THE PROGRAM's BYTES, WRITTEN: numbers. -/
namespace Go.Proofs.YtcclepohmhdpbaaGreatDoor
set_option linter.all false
open Go.RowKit Go.Deep

namespace Bn
/-- The bytes of a number, of which k are written. -/
def part (lit : Bool) (n v k : Nat) : List UInt8 := if lit = true then (low n v).take k ++ List.replicate (n - k) 0 else List.replicate (n - k) 0 ++ ((low n v).take k).reverse
theorem part_length (lit : Bool) {n v k : Nat} (h : k ≤ n) : (part lit n v k).length = n := by
  unfold part
  split <;> simp [low_length] <;> omega
theorem part_zero (lit : Bool) (n v : Nat) : part lit n v 0 = List.replicate n 0 := by unfold part; split <;> simp
theorem part_end (lit : Bool) (n v : Nat) : part lit n v n = put lit n v := by
  unfold part put
  rw [Nat.sub_self, List.take_of_length_le (by rw [low_length]; omega)]
  split <;> simp
theorem low_at : ∀ (n v k : Nat), k < n → (low n v)[k]? = some (UInt8.ofNat (v / 256 ^ k % 256))
  | 0, _, _, h => by omega
  | n + 1, v, 0, _ => by simp [low]
  | n + 1, v, k + 1, h => by
    simp only [low, List.getElem?_cons_succ]
    rw [low_at n (v / 256) k (by omega), Nat.div_div_eq_div_mul, Nat.pow_succ, Nat.mul_comm 256]
theorem part_step (lit : Bool) {n v k : Nat} (h : k < n) : part lit n v (k + 1) = (part lit n v k).set (if lit = true then k else n - 1 - k) (UInt8.ofNat (v / 256 ^ k % 256)) := by
  have e1 : (low n v).take (k + 1) = (low n v).take k ++ [UInt8.ofNat (v / 256 ^ k % 256)] := Pl.take_one (low_at n v k h)
  have e2 : n - k = (n - (k + 1)) + 1 := by omega
  have e3 : ((low n v).take k).length = k := by rw [List.length_take, low_length]; omega
  cases lit
  · show List.replicate (n - (k + 1)) 0 ++ ((low n v).take (k + 1)).reverse = (List.replicate (n - k) 0 ++ ((low n v).take k).reverse).set (n - 1 - k) _
    rw [e1, e2, List.reverse_append, List.set_append_left _ _ (by simp; omega)]
    have : (List.replicate (n - (k + 1) + 1) (0 : UInt8)).set (n - 1 - k) (UInt8.ofNat (v / 256 ^ k % 256)) = List.replicate (n - (k + 1)) 0 ++ [UInt8.ofNat (v / 256 ^ k % 256)] := by
      rw [show n - 1 - k = n - (k + 1) by omega]
      generalize n - (k + 1) = m
      rw [List.replicate_succ', List.set_append_right _ _ (by simp)]
      simp
    rw [this]
    simp
  · show (low n v).take (k + 1) ++ List.replicate (n - (k + 1)) 0 = ((low n v).take k ++ List.replicate (n - k) 0).set k _
    rw [e1, e2, List.set_append_right _ _ (by omega), e3, Nat.sub_self, List.replicate_succ, List.set_cons_zero]
    simp
def cells (l : List UInt8) : List Value := l.map fun c => .int .u8 (c.toNat : Int)
theorem cells_set (l : List UInt8) (i : Nat) (c : UInt8) : cells (l.set i c) = (cells l).set i (.int .u8 (c.toNat : Int)) := by simp [cells]
theorem cells_at {l : List UInt8} {i : Nat} (h : i < l.length) : (cells l)[i]? = some (.int .u8 (l[i].toNat : Int)) := by simp [cells, h]
end Bn

theorem und_bytes : Tryz.prog.underlying 151 = some (.slice 5) := by kernel_rfl
theorem und_byte : Tryz.prog.underlying 5 = some (.int .u8) := by kernel_rfl
theorem und_str : Tryz.prog.underlying 9 = some .string := by kernel_rfl
theorem info_byte : (Tryz.prog.info? 5).map (fun i => (i.zero, i.size, i.bytes)) = some (some (.int .u8 0), 1, 1) := by kernel_rfl

theorem make_bytes (n : Nat) (hn : n ≤ 2097152) (w : World) :
    (Instr.makeSlice 151 (.int .i64 (n : Int)) (.int .i64 (n : Int))).run Tryz.prog w = .ok (.slice (some ⟨w.heap.size, 0, none⟩) n n) (w.alloc (.cells (Bn.cells (List.replicate n 0)).toArray 5)) := by
  rw [run_make_row' 151 5 _ 1 und_bytes info_byte rfl .i64 .i64 n (by omega) (by omega) w]
  congr 3
  rw [← Array.toArray_toList (xs := madeCells _ _), toList_madeCells_one]
  congr 1
  simp [Bn.cells]

theorem bytes_string {w : World} {b n : Nat} {l : List UInt8} (h : VRow w b 5 (Bn.cells l)) (hl : l.length = n) :
    (convert 151 9 (.slice (some ⟨b, 0, none⟩) n n)).run Tryz.prog w = .ok (.string (bs l)) w := by
  subst hl
  refine run_convert_bytes_back w _ _ _ ⟨b, 0, none⟩ l.length l und_bytes und_byte und_str fun j hj => ?_
  have : (⟨b, 0, none⟩ : Addr).add j = ⟨b, j, none⟩ := by unfold Addr.add; split <;> simp_all
  rw [this]
  exact h.cell (Bn.cells_at hj)

set_option maxRecDepth 100000 in
set_option maxHeartbeats 2000000 in
theorem wnum_any (n v : Nat) (o : Int) (lit : Bool) (w : World) (hlit : lit = (o == 1)) (hn : n ≤ 8) (hv : v < 18446744073709551616) :
    Calls Tryz.prog 189 #[.int .u64 v, .int .i64 n, .int .i64 o] w fun e w' => e = .returned (.string (bs (Bn.put lit n v))) ∧ Up w w' := by
  have hmk := make_bytes n (by omega)
  have HNW := hide (VRow.new w (Bn.cells (List.replicate n 0)) 5)
  go_enter Tryz.func189, Tryz.ntmps189
  go_wp2
  clear hmk
  go_loopw [8, 9] (fun r i wr => ∃ k : Nat, k ≤ n ∧ i = .int .i64 k ∧ r = .int .u64 (v / 256 ^ k : Nat) ∧ Hid (VRow wr w.heap.size 5 (Bn.cells (Bn.part lit n v k))) ∧ Hid (Up w wr)) (fun _ i _ => n - (intOf i).toNat)
  case atStart => exact ⟨0, Nat.zero_le _, rfl, by simp, by rw [Bn.part_zero]; exact HNW, (Up.refl w).alloc _⟩
  case round =>
    obtain ⟨k, hk, rfl, rfl, HV, HU⟩ := hrel
    by_cases hlt : k < n
    · have HS := hide (Bn.part_step lit (v := v) hlt)
      have hR : v / 256 ^ k < 18446744073709551616 := Nat.lt_of_le_of_lt (Nat.div_le_self _ _) hv
      have HD : Hid (v / 256 ^ (k + 1) = v / 256 ^ k / 256) := by show _ = _; rw [Nat.div_div_eq_div_mul, Nat.pow_succ]
      generalize v / 256 ^ k = R at *
      have hy : ((R : Int) % 256) = ((UInt8.ofNat (R % 256)).toNat : Int) := by simp
      generalize UInt8.ofNat (R % 256) = y at *
      have hpl := Bn.part_length lit (v := v) hk
      generalize Bn.part lit n v k = L at *
      cases lit
      · have ho := hlit.symm
        have c0 := HV.out.cell (Bn.cells_at (l := L) (i := n - 1 - k) (by omega))
        have f0 := HV.out.frozen (n - 1 - k)
        have HX : Hid (Bn.part false n v (k + 1) = L.set (n - 1 - k) y) := HS.out
        clear hlit HS
        go_wp2
        go_roundw
        case rel => exact ⟨k + 1, by omega, by go_num, by rw [HD.out]; simp, by rw [HX.out, Bn.cells_set]; exact HV.out.set _ _, HU.out.setCell (p := ⟨w.heap.size, n - 1 - k, none⟩) (Nat.le_refl _) _⟩
        case measure => simp [intOf]; omega
      · have ho := hlit.symm
        have c0 := HV.out.cell (Bn.cells_at (l := L) (i := k) (by omega))
        have f0 := HV.out.frozen k
        have HX : Hid (Bn.part true n v (k + 1) = L.set k y) := HS.out
        clear hlit HS
        go_wp2
        go_roundw
        case rel => exact ⟨k + 1, by omega, by go_num, by rw [HD.out]; simp, by rw [HX.out, Bn.cells_set]; exact HV.out.set _ _, HU.out.setCell (p := ⟨w.heap.size, k, none⟩) (Nat.le_refl _) _⟩
        case measure => simp [intOf]; omega
    · have hkn : k = n := by omega
      subst hkn
      rw [Bn.part_end] at HV
      have kc := bytes_string HV.out (Bn.put_length lit k v)
      clear hlit
      go_wp2
      go_ret
      exact ⟨rfl, HU.out⟩
end Go.Proofs.YtcclepohmhdpbaaGreatDoor
