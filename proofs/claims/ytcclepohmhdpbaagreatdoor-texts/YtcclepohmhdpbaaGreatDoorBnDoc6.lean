import Derived.Test.YtcclepohmhdpbaaGreatDoorBnUnits
import Derived.Test.YtcclepohmhdpbaaGreatDoorSaid
/- THE DOCUMENT's BYTES, READ: numbers, doubles. -/
namespace Go.Proofs.YtcclepohmhdpbaaGreatDoor
set_option linter.all false
open Go.RowKit Go.Deep

namespace Bn
theorem take_lt4 (lit : Bool) {l : List UInt8} {n k : Nat} (hk : k < n) (hn : n ≤ 4) (hl : n ≤ l.length) : big ((ord lit (l.take n)).take k) < 16777216 := by
  have h := big_lt ((ord lit (l.take n)).take k)
  have hq : ((ord lit (l.take n)).take k).length ≤ 3 := by rw [List.length_take]; omega
  have : 256 ^ ((ord lit (l.take n)).take k).length ≤ 256 ^ 3 := Nat.pow_le_pow_right (by omega) hq
  have e : 256 ^ 3 = 16777216 := rfl
  omega
end Bn

set_option maxRecDepth 100000 in
set_option maxHeartbeats 2000000 in
theorem dvalue_any (l : List UInt8) (lit : Bool) (w : World) (hl : l.length ≤ 4) :
    Calls Tryz.prog 114 #[.string (bs l), .bool lit] w fun e w' => e = .returned (.int .i64 (Bn.num lit l : Nat)) ∧ w' = w := by
  obtain ⟨e0, e1, e2, e3, e4, e5⟩ := bs_tells l
  clear e2 e3 e4 e5
  have HE := hide (show Bn.num lit (l.take l.length) = Bn.num lit l by rw [List.take_length])
  go_enter Tryz.func114, Tryz.ntmps114
  go_wp2
  go_loop [5, 6] (fun v i => ∃ k : Nat, k ≤ l.length ∧ i = .int .i64 k ∧ v = .int .i64 (Bn.big ((Bn.ord lit (l.take l.length)).take k) : Nat)) (fun _ i => l.length - (intOf i).toNat)
  case atStart => exact ⟨0, Nat.zero_le _, rfl, by simp [Bn.big, Bn.bigA]⟩
  case round =>
    obtain ⟨k, hk, rfl, rfl⟩ := hrel
    by_cases hlt : k < l.length
    · have HS := hide (Bn.num_step lit hlt (Nat.le_refl _))
      have hv := Bn.take_lt4 lit hlt hl (Nat.le_refl _)
      generalize hV : Bn.big ((Bn.ord lit (l.take l.length)).take k) = V at *
      generalize hV2 : Bn.big ((Bn.ord lit (l.take l.length)).take (k + 1)) = V2 at *
      have HV2 := hide hV2
      clear hV hV2
      cases lit
      · have HX : Hid ((V2 : Int) = V * 256 + Tx.at_ l k) := HS.out
        have hat := Tx.at_nn (l := l) (i := k) (by omega)
        obtain ⟨h0, h1⟩ := hat
        clear HS
        go_wp2
        go_round
        case rel => exact ⟨k + 1, by omega, by go_num, by rw [HV2.out, HX.out]; go_num⟩
        case measure => simp [intOf]; omega
      · have HX : Hid ((V2 : Int) = V * 256 + Tx.at_ l (l.length - 1 - k)) := HS.out
        have hat := Tx.at_nn (l := l) (i := l.length - 1 - k) (by omega)
        obtain ⟨h0, h1⟩ := hat
        clear HS
        go_wp2
        go_round
        case rel => exact ⟨k + 1, by omega, by go_num, by rw [HV2.out, HX.out]; go_num⟩
        case measure => simp [intOf]; omega
    · have hkn : k = l.length := by omega
      subst hkn
      have HF := hide (Bn.num_end lit (Nat.le_refl l.length))
      rw [HF.out, HE.out]
      go_wp2
      go_ret
      exact ⟨rfl, rfl⟩

/-- What a number that is cut off has to do with what was there. -/
def CutP (n : Nat) (lit : Bool) (l : List UInt8) (bad : Bool) (v : Nat) (l' : List UInt8) (bad' : Bool) : Prop :=
  (bad' = true ∧ (bad = true ∨ l.length < n) ∧ v = 0) ∨ (bad' = false ∧ bad = false ∧ ¬ l.length < n ∧ v = Bn.num lit (l.take n) ∧ l' = l.drop n)

def CutPost (n : Nat) (lit : Bool) (l : List UInt8) (bad wide : Bool) (b : Nat) (w : World) (e : Ending) (w' : World) : Prop :=
  ∃ (v : Nat) (l' : List UInt8) (bad' : Bool), e = .returned (.int .i64 v) ∧ SD w' b l' bad' wide ∧ Fr (· = b) w w' ∧ CutP n lit l bad v l' bad' ∧ v < 4294967296 ∧ l'.length ≤ 6000

set_option maxHeartbeats 1000000 in
theorem dcut_any (n : Nat) (lit : Bool) (l : List UInt8) (bad wide : Bool) (b : Nat) (w : World) (hr : SD w b l bad wide) (hn : n ≤ 4) (hl : l.length ≤ 6000) :
    Calls Tryz.prog 74 #[.pointer (some ⟨b, 0, none⟩), .int .i64 n, .bool lit] w (CutPost n lit l bad wide b w) := by
  obtain ⟨e0, e1, e2, e3, e4, e5⟩ := bs_tells l
  obtain ⟨c0, c1, c2, f0, f1, f2⟩ := hr.facts
  have HR := hide hr
  clear hr e1 e4 e5 c2 f2
  by_cases hb : bad = true ∨ l.length < n
  · have HB := hide hb
    cases bad
    · have hlt : l.length < n := hb.resolve_left (by decide)
      clear hb
      go_enter Tryz.func74, Tryz.ntmps74
      go_wp2
      go_ret
      exact ⟨0, l, true, rfl, HR.out.bad true, (Fr.refl (· = b) _).setCell (p := ⟨b, 1, none⟩) rfl _, .inl ⟨rfl, HB.out, rfl⟩, by omega, hl⟩
    · clear hb
      go_enter Tryz.func74, Tryz.ntmps74
      go_wp2
      go_ret
      exact ⟨0, l, true, rfl, HR.out.bad true, (Fr.refl (· = b) _).setCell (p := ⟨b, 1, none⟩) rfl _, .inl ⟨rfl, .inl rfl, rfl⟩, by omega, hl⟩
  · have hbf : bad = false := by cases bad <;> simp_all
    subst hbf
    have hlt : ¬ l.length < n := fun e => hb (.inr e)
    clear hb
    have htl : (l.take n).length = n := by rw [List.length_take]; omega
    go_enter Tryz.func74, Tryz.ntmps74
    go_wp2_with fail
    refine (dvalue_any (l.take n) lit _ (by omega)).mono ?_
    rintro e w1 ⟨rfl, rfl⟩
    go_wp2
    go_ret
    refine ⟨_, l.drop n, false, rfl, HR.out.rest _, (Fr.refl (· = b) _).setCell (p := ⟨b, 0, none⟩) rfl _, .inr ⟨rfl, rfl, hlt, rfl, rfl⟩, ?_, by simp; omega⟩
    have h := Bn.num_lt lit (l.take n)
    rw [htl] at h
    have : 256 ^ n ≤ 256 ^ 4 := Nat.pow_le_pow_right (by omega) hn
    have e : 256 ^ 4 = 4294967296 := rfl
    omega
end Go.Proofs.YtcclepohmhdpbaaGreatDoor

/- THE DOCUMENT's BYTES, READ: doubles. -/
namespace Go.Proofs.YtcclepohmhdpbaaGreatDoor
set_option linter.all false
open Go.RowKit Go.Deep

namespace Bn
/-- The units, by the two halves. -/
theorem units_halves (hi lo : Nat) (h1 : hi < 4294967296) (h2 : lo < 4294967296) :
    (hi * 4294967296 + lo) / 4503599627370496 % 2048 = hi / 1048576 % 2048 ∧ (hi * 4294967296 + lo) % 4503599627370496 = hi % 1048576 * 4294967296 + lo ∧ (9223372036854775808 ≤ hi * 4294967296 + lo ↔ 2147483648 ≤ hi) := by
  refine ⟨by omega, by omega, by omega⟩
theorem odd_mod {M Q j F : Nat} (h : M = Q * 2 ^ j) (hj : j < F) (hq : Q % 2 = 1) : M % 2 ^ F ≠ 0 := by
  intro e
  have d := Nat.dvd_of_mod_eq_zero e
  have e1 : (2 : Nat) ^ F = 2 ^ j * 2 ^ (F - j) := by rw [← Nat.pow_add]; congr 1; omega
  rw [e1, h, Nat.mul_comm Q] at d
  have d2 := Nat.dvd_of_mul_dvd_mul_left (Nat.pow_pos (by omega)) d
  have d3 : 2 ∣ 2 ^ (F - j) := ⟨2 ^ (F - j - 1), by rw [← Nat.pow_succ']; congr 1; omega⟩
  have := Nat.mod_eq_zero_of_dvd (Nat.dvd_trans d3 d2)
  omega
/-- The units of a double whose parts are known. -/
def unitsAt (neg : Bool) (m f : Nat) : Option Int := if m % 2 ^ f ≠ 0 ∨ 32768 < m / 2 ^ f then none else some (if neg = true then -(m / 2 ^ f : Nat) else (m / 2 ^ f : Nat))
theorem unitsAt_odd {neg : Bool} {m f q j : Nat} (h : m = q * 2 ^ j) (hj : j < f) (hq : q % 2 = 1) : unitsAt neg m f = none := by unfold unitsAt; rw [if_pos (.inl (odd_mod h hj hq))]
theorem unitsAt_end {neg : Bool} {m f q : Nat} (h : m = q * 2 ^ f) : unitsAt neg m f = if 32768 < q then none else some (if neg = true then -(q : Int) else q) := by
  have hm : m % 2 ^ f = 0 := by rw [h]; exact Nat.mul_mod_left _ _
  have hd : m / 2 ^ f = q := by rw [h]; exact Nat.mul_div_cancel _ (Nat.pow_pos (by omega))
  unfold unitsAt
  rw [hm, hd]
  by_cases hq : 32768 < q
  · rw [if_pos (.inr hq), if_pos hq]
  · rw [if_neg (by omega), if_neg hq]
/-- (A bound that no simp looks into.) -/
def Sm (q : Nat) : Prop := q < 9007199254740992
theorem wrap_half {q : Nat} (h : Sm q) : wrap64 ((q : Int) / 2) = ((q / 2 : Nat) : Int) := by
  have : q < 9007199254740992 := h
  unfold wrap64
  omega
end Bn

set_option maxRecDepth 100000 in
set_option maxHeartbeats 4000000 in
theorem ddouble_any (hi lo : Nat) (w : World) (h1 : hi < 4294967296) (h2 : lo < 4294967296) :
    Calls Tryz.prog 115 #[.int .i64 hi, .int .i64 lo] w fun e w' => e = .returned (optI (Bn.units (hi * 4294967296 + lo))) ∧ w' = w := by
  obtain ⟨a1, a2, a3⟩ := Bn.units_halves hi lo h1 h2
  obtain ⟨X, hX⟩ : ∃ X, X = hi * 4294967296 + lo := ⟨_, rfl⟩
  rw [← hX] at a1 a2 a3 ⊢
  obtain ⟨E, hE⟩ : ∃ E, E = hi / 1048576 % 2048 := ⟨_, rfl⟩
  obtain ⟨M, hM⟩ : ∃ M, M = hi % 1048576 * 4294967296 + lo := ⟨_, rfl⟩
  have hE2 : E < 2048 := by omega
  have hM2 : (M : Int) < 4503599627370496 := by omega
  have q1 : ((hi : Int) / 1048576) % 2048 = (E : Int) := by omega
  have q2 : ((hi : Int) % 1048576) * 4294967296 + (lo : Int) = (M : Int) := by omega
  have HU := hide (fun h : X ≠ 0 => show Bn.units X = _ by unfold Bn.units; rw [if_neg h, a1, a2])
  rw [← hE, ← hM] at HU
  have HA := hide a3
  have HX : Hid (X = 0 ↔ (E = 0 ∧ M = 0 ∧ ¬ 2147483648 ≤ hi)) := by
    show _ ↔ _
    constructor
    · intro h; omega
    · intro h; omega
  have h1' : (hi : Int) < 4294967296 := by omega
  have h2' : (lo : Int) < 4294967296 := by omega
  clear a1 a2 a3 hX
  clear hE hM h1 h2
  by_cases hE0 : E = 0
  · rw [show (E : Int) = 0 by omega] at q1
    by_cases hm : M = 0
    · rw [show (M : Int) = 0 by omega] at q2
      by_cases hneg : 2147483648 ≤ hi
      · have HV : Hid (Bn.units X = none) := by
          rw [HU.out (fun e => (HX.out.1 e).2.2 hneg), if_pos (.inl (by omega))]; exact rfl
        have hn : (2147483648 : Int) ≤ hi := by omega
        clear HU HX HA hneg
        go_enter Tryz.func115, Tryz.ntmps115
        go_wp2
        go_ret2
        rw [HV.out]
        exact ⟨rfl, rfl⟩
      · have HV : Hid (Bn.units X = some 0) := by
          rw [HX.out.2 ⟨hE0, hm, hneg⟩]; exact rfl
        have hn : ¬ (2147483648 : Int) ≤ hi := by omega
        clear HU HX HA hneg
        go_enter Tryz.func115, Tryz.ntmps115
        go_wp2
        go_ret2
        rw [HV.out]
        exact ⟨rfl, rfl⟩
    · have HV : Hid (Bn.units X = none) := by
        rw [HU.out (fun e => hm (HX.out.1 e).2.1), if_pos (.inl (by omega))]; exact rfl
      have hmb : ((M : Int) == 0) = false := beq_eq_false_iff_ne.2 (by omega)
      clear HU HX HA
      go_enter Tryz.func115, Tryz.ntmps115
      go_wp2
      go_ret2
      rw [HV.out]
      exact ⟨rfl, rfl⟩
  · have hEb : ((E : Int) == 0) = false := beq_eq_false_iff_ne.2 (by omega)
    have HY := hide (HU.out (fun e => hE0 (HX.out.1 e).1))
    obtain ⟨M5, hM5⟩ : ∃ M5, M5 = M + 4503599627370496 := ⟨_, rfl⟩
    have q3 : (M : Int) + 4503599627370496 = (M5 : Int) := by omega
    have H5 : Bn.Sm M5 := by show _ < _; omega
    rw [← hM5] at HY
    clear HU HX hM5
    by_cases h3 : E < 1019 ∨ 1071 < E
    · have HV : Hid (Bn.units X = none) := by rw [HY.out, if_pos h3]; exact rfl
      have hk : (((E : Int) - 1071) != 0) = true := bne_iff_ne.2 (by omega)
      have hk2 : (0 : Int) < (E : Int) - 1071 ∨ (E : Int) - 1071 < -52 := by omega
      clear HY HA h3
      rcases hk2 with hk2 | hk2
      all_goals
        go_enter Tryz.func115, Tryz.ntmps115
        go_wp2
        clear q1 q2 q3 hM2 h1' h2'
        go_loop [8, 9] (fun m k => m = .int .i64 (M5 : Int) ∧ k = .int .i64 ((E : Int) - 1071)) (fun _ _ => 0)
        case atStart => exact ⟨rfl, rfl⟩
        case round =>
          obtain ⟨rfl, rfl⟩ := hrel
          go_wp2
          go_ret2
          rw [HV.out]
          exact ⟨rfl, rfl⟩
    · rw [if_neg h3] at HY
      obtain ⟨F, hF, hF2⟩ : ∃ F : Nat, E + F = 1071 ∧ F ≤ 52 := ⟨1071 - E, by omega, by omega⟩
      have e1 : 1071 - E = F := by omega
      have e2 : (E : Int) = 1071 - F := by omega
      rw [e1] at HY
      rw [e2] at q1 hEb
      obtain ⟨neg, hneg⟩ : ∃ neg : Bool, neg = decide (2147483648 ≤ hi) := ⟨_, rfl⟩
      have HZ : Hid (Bn.units X = Bn.unitsAt neg M5 F) := by
        rw [HY.out]
        unfold Bn.unitsAt
        have := HA.out
        by_cases hh : 2147483648 ≤ hi
        · rw [if_pos (this.2 hh), hneg, decide_eq_true hh]; exact rfl
        · rw [if_neg (fun e => hh (this.1 e)), hneg, decide_eq_false hh]; exact rfl
      have hN : (decide ((2147483648 : Int) ≤ (hi : Int))) = neg := by
        rw [hneg]
        congr 1
        exact propext (by omega)
      clear h3 e1 e2 hF hE0 hE2 HY HA hneg
      go_enter Tryz.func115, Tryz.ntmps115
      go_wp2
      clear q1 q2 q3 hM2 h1' h2' hEb hN
      go_loop [8, 9] (fun m k => ∃ j Q : Nat, j ≤ F ∧ k = .int .i64 ((j : Int) - F) ∧ m = .int .i64 Q ∧ Hid (M5 = Q * 2 ^ j) ∧ Bn.Sm Q) (fun _ k => (- (intOf k)).toNat)
      case atStart => exact ⟨0, M5, by omega, by go_num, rfl, by simp [Hid], H5⟩
      case round =>
        obtain ⟨j, Q, hj, rfl, rfl, HQ, hQ⟩ := hrel
        by_cases hlt : j < F
        · have hk : (((j : Int) - F) != 0) = true := bne_iff_ne.2 (by omega)
          by_cases hodd : Q % 2 = 1
          · have HV : Hid (Bn.units X = none) := HZ.out.trans (Bn.unitsAt_odd HQ.out hlt hodd)
            have ho2 : ((Q : Int) % 2 == 1) = true := beq_iff_eq.2 (by omega)
            clear hodd HZ HQ
            go_wp2
            go_ret2
            rw [HV.out]
            exact ⟨rfl, rfl⟩
          · have HP : Hid (M5 = (Q / 2) * 2 ^ (j + 1)) := by
              show _ = _
              rw [HQ.out, Nat.pow_succ, Nat.mul_comm (2 ^ j) 2, ← Nat.mul_assoc]
              congr 1
              omega
            have ho2 : ((Q : Int) % 2 == 1) = false := beq_eq_false_iff_ne.2 (by omega)
            clear hodd HQ
            go_wp2
            go_round
            case rel =>
              have hQ2 : Q < 9007199254740992 := hQ
              exact ⟨j + 1, Q / 2, by omega, by go_num, by rw [Bn.wrap_half hQ], HP, by show _ < _; omega⟩
            case measure => simp [intOf]; omega
        · have hjF : j = F := by omega
          subst hjF
          have HW := hide (HZ.out.trans (Bn.unitsAt_end HQ.out))
          clear HZ HQ
          by_cases hq : 32768 < Q
          · have HV : Hid (Bn.units X = none) := by rw [HW.out, if_pos hq]; exact rfl
            have hqi : (32768 : Int) < (Q : Int) := by omega
            clear HW
            go_wp2
            go_ret2
            rw [HV.out]
            exact ⟨rfl, rfl⟩
          · rw [if_neg hq] at HW
            have hqi : ¬ (32768 : Int) < (Q : Int) := by omega
            cases neg
            all_goals
              go_wp2
              go_ret2
              rw [HW.out]
              exact ⟨rfl, rfl⟩
end Go.Proofs.YtcclepohmhdpbaaGreatDoor

/- THE DOCUMENT's BYTES, WRITTEN: numbers, doubles. -/
namespace Go.Proofs.YtcclepohmhdpbaaGreatDoor
set_option linter.all false
open Go.RowKit Go.Deep

namespace Bn
def Sm32 (q : Nat) : Prop := q < 4294967296
theorem put_step (lit : Bool) (k v : Nat) : put lit (k + 1) v = if lit = true then put lit k v ++ [UInt8.ofNat (v / 256 ^ k % 256)] else UInt8.ofNat (v / 256 ^ k % 256) :: put lit k v := by
  have e : low (k + 1) v = low k v ++ [UInt8.ofNat (v / 256 ^ k % 256)] := by rw [low_add]; rfl
  cases lit
  · show (low (k + 1) v).reverse = _ :: (low k v).reverse
    rw [e]; simp
  · show low (k + 1) v = low k v ++ [_]
    rw [e]
end Bn

set_option maxRecDepth 100000 in
set_option maxHeartbeats 2000000 in
theorem dspread_any (v n : Nat) (lit : Bool) (w : World) (hv : v < 4294967296) (hn : n ≤ 8) :
    Calls Tryz.prog 81 #[.int .i64 v, .int .i64 n, .bool lit] w fun e w' => e = .returned (.string (bs (Bn.put lit n v))) ∧ Up w w' := by
  have HV := hide hv
  clear hv
  go_enter Tryz.func81, Tryz.ntmps81
  go_wp2
  go_loopw [0, 7, 8] (fun r s i wr => ∃ k R : Nat, k ≤ n ∧ i = .int .i64 k ∧ r = .int .i64 R ∧ Hid (R = v / 256 ^ k) ∧ s = .string (bs (Bn.put lit k v)) ∧ Hid (Up w wr)) (fun _ _ i _ => n - (intOf i).toNat)
  case atStart => exact ⟨0, v, Nat.zero_le _, rfl, rfl, by simp [Hid], by cases lit <;> rfl, Up.refl w⟩
  case round =>
    obtain ⟨k, R, hk, rfl, rfl, HR, rfl, HU⟩ := hrel
    by_cases hlt : k < n
    · have HS := hide (Bn.put_step lit k v)
      rw [← HR.out] at HS
      have hR : (R : Int) < 4294967296 := by
        have : R ≤ v := by rw [HR.out]; exact Nat.div_le_self _ _
        have := HV.out
        omega
      have HD : Hid (R / 256 = v / 256 ^ (k + 1)) := by show _ = _; rw [HR.out, Nat.div_div_eq_div_mul, Nat.pow_succ]
      have hy : ((R : Int) % 256) = ((UInt8.ofNat (R % 256)).toNat : Int) := by simp
      generalize UInt8.ofNat (R % 256) = y at *
      have kc := bytes_string (VRow.new wr (Bn.cells [y]) 5) (n := 1) rfl
      simp only [Bn.cells, List.map_cons, List.map_nil] at kc
      have hpl := Bn.put_length lit k v
      obtain ⟨P, hP⟩ : ∃ P, P = Bn.put lit k v := ⟨_, rfl⟩
      rw [← hP] at HS hpl ⊢
      have z0 := bs_size P
      have z1 := bs_size [y]
      have t1 := bs_append P [y]
      have t2 : bs [y] ++ bs P = bs (y :: P) := bs_append [y] P
      have hyb : (y.toNat : Int) ≤ 255 := by have := y.toNat_lt; omega
      clear hP HR
      cases lit
      · have HX : Hid (Bn.put false (k + 1) v = y :: P) := HS.out
        clear HS
        go_wp2
        go_roundw
        case rel => exact ⟨k + 1, R / 256, by omega, by go_num, by go_num, HD, by rw [HX.out], HU.out.alloc _⟩
        case measure => simp [intOf]; omega
      · have HX : Hid (Bn.put true (k + 1) v = P ++ [y]) := HS.out
        clear HS
        go_wp2
        go_roundw
        case rel => exact ⟨k + 1, R / 256, by omega, by go_num, by go_num, HD, by rw [HX.out], HU.out.alloc _⟩
        case measure => simp [intOf]; omega
    · have hkn : k = n := by omega
      subst hkn
      go_wp2
      go_ret
      exact ⟨rfl, HU.out⟩

set_option maxRecDepth 100000 in
set_option maxHeartbeats 4000000 in
theorem dreal_any (u : Int) (lit : Bool) (w : World) (h1 : -32768 ≤ u) (h2 : u ≤ 32768) :
    Calls Tryz.prog 82 #[.int .i64 u, .bool lit] w fun e w' => e = .returned (.string (bs (Bn.put lit 8 (Bn.dbl u)))) ∧ Up w w' := by
  by_cases h0 : u = 0
  · subst h0
    have HL := hide (show Bn.put lit 8 (Bn.dbl 0) = _ from Bn.put_halves lit 0 0 (by omega))
    have l1 := Bn.put_length lit 4 0
    obtain ⟨PH, hPH⟩ : ∃ P, P = Bn.put lit 4 0 := ⟨_, rfl⟩
    rw [← hPH] at HL l1
    have HPH := hide hPH
    clear hPH
    have z1 := bs_size PH
    have t1 := bs_append PH PH
    go_enter Tryz.func82, Tryz.ntmps82
    go_wp2_with fail
    go_loop [0, 6] (fun a e => a = .int .i64 0 ∧ e = .int .i64 1071) (fun _ _ => 0)
    case atStart => exact ⟨rfl, rfl⟩
    case round =>
      obtain ⟨rfl, rfl⟩ := hrel
      go_wp2_with fail
      refine (dspread_any 0 4 lit _ (by omega) (by omega)).mono ?_
      rintro e w1 ⟨rfl, u1⟩
      rw [← HPH.out]
      replace u1 := hide u1
      go_wp2_with fail
      refine (dspread_any 0 4 lit _ (by omega) (by omega)).mono ?_
      rintro e w2 ⟨rfl, u2⟩
      rw [← HPH.out]
      replace u2 := hide u2
      cases lit
      all_goals
        go_wp2
        go_ret
        rw [HL.out]
        exact ⟨rfl, u1.out.trans u2.out⟩
  · by_cases hs : u < 0
    · obtain ⟨K, rfl⟩ : ∃ K : Nat, u = -(K : Int) := ⟨u.natAbs, by omega⟩
      have HB := hide (show Bn.dbl (-(K : Int)) = Bn.dblOf true K (Bn.sh 60 K) by unfold Bn.dbl; rw [if_neg h0, Int.natAbs_neg, Int.natAbs_natCast, decide_eq_true hs])
      have hK1 : 0 < K := by omega
      have hK2 : K ≤ 32768 := by omega
      go_enter Tryz.func82, Tryz.ntmps82
      go_wp2_with fail
      go_loop [0, 6] (fun a e => ∃ i x y : Nat, i ≤ 52 ∧ Hid (x + i = 1071) ∧ a = .int .i64 y ∧ e = .int .i64 x ∧ Hid (y = K * 2 ^ i) ∧ Bn.Sm y ∧ Hid (Bn.sh 60 K = i + Bn.sh (60 - i) y)) (fun _ e => (intOf e).toNat)
      case atStart => exact ⟨0, 1071, K, by omega, rfl, rfl, rfl, by simp [Hid], by show _ < _; omega, by simp [Hid]⟩
      case round =>
        obtain ⟨i, x, a, hi, hx, rfl, rfl, HA, hlt, HS⟩ := hrel
        replace hx := hx.out
        have hlt' : a < 9007199254740992 := hlt
        have HP : Hid (2 * a = K * 2 ^ (i + 1)) := by show _ = _; rw [HA.out, Nat.pow_succ, Nat.mul_comm 2, Nat.mul_assoc]
        have hpos : 0 < a := by rw [HA.out]; exact Nat.mul_pos hK1 (Nat.pow_pos (by omega))
        have HI := hide (fun h => Bn.pow_lt (k := K) (i := i + 1) hK1 h)
        rw [show 60 - i = (60 - (i + 1)) + 1 by omega] at HS
        by_cases hc : a < 4503599627370496
        · have HT := hide (Bn.sh_step HS.out hc)
          have hi2 : i + 1 ≤ 52 := HI.out (by rw [← HP.out]; omega)
          have hc' : (a : Int) < 4503599627370496 := by omega
          have HN : Bn.Sm (2 * a) := by show _ < _; omega
          clear HS hlt' hc HI
          go_wp2
          go_round
          case rel => exact ⟨i + 1, x - 1, 2 * a, hi2, by show _ = _; omega, by go_num, by go_num, HP, HN, HT⟩
          case measure => simp [intOf]; omega
        · have HT := hide (Bn.sh_end HS.out hc)
          obtain ⟨r, hr⟩ : ∃ r, a = r + 4503599627370496 := ⟨a - 4503599627370496, by omega⟩
          have HF : Hid (Bn.dbl (-(K : Int)) = (2048 + x) * 4503599627370496 + r) := by
            have e1 : 1071 - i = x := by omega
            have e2 : K * 2 ^ i - 4503599627370496 = r := by rw [← HA.out]; omega
            rw [HB.out, HT.out]
            unfold Bn.dblOf
            rw [e1, e2]
            show _ = _
            rw [if_pos rfl]; omega
          obtain ⟨hiP, hhi⟩ : ∃ h, h = (2048 + x) * 1048576 + r / 4294967296 := ⟨_, rfl⟩
          obtain ⟨loP, hlo⟩ : ∃ h, h = r % 4294967296 := ⟨_, rfl⟩
          have HG : Hid (Bn.dbl (-(K : Int)) = hiP * 4294967296 + loP) := by rw [HF.out]; show _ = _; omega
          have b1 : Bn.Sm32 hiP := by show _ < _; omega
          have b2 : Bn.Sm32 loP := by show _ < _; omega
          have q1 : (a : Int) - 4503599627370496 = (r : Int) := by omega
          have q2 : ((2048 : Int) + (x : Int)) * 1048576 + (r : Int) / 4294967296 = (hiP : Int) := by omega
          have q3 : (r : Int) % 4294967296 = (loP : Int) := by omega
          have hc' : ¬ (a : Int) < 4503599627370496 := by omega
          have hp' : (0 : Int) < (a : Int) := by omega
          have hx' : x ≤ 1071 := by omega
          have hr0 : (0 : Int) ≤ (r : Int) := by omega
          have hr1 : (r : Int) < 4503599627370496 := by omega
          have HL := hide (Bn.put_halves lit hiP loP b2)
          rw [← HG.out] at HL
          have l1 := Bn.put_length lit 4 hiP
          have l2 := Bn.put_length lit 4 loP
          obtain ⟨PH, hPH⟩ : ∃ P, P = Bn.put lit 4 hiP := ⟨_, rfl⟩
          obtain ⟨PL, hPL⟩ : ∃ P, P = Bn.put lit 4 loP := ⟨_, rfl⟩
          rw [← hPH] at HL l1
          rw [← hPL] at HL l2
          have HPH := hide hPH
          have HPL := hide hPL
          clear HS hr hc hlt' hx HI HP HA HF HG hhi hlo hPH hPL hlt HB HT hpos
          obtain ⟨A, hA⟩ : ∃ A : Int, (a : Int) = A := ⟨_, rfl⟩
          rw [hA] at hc' hp' q1 ⊢
          obtain ⟨R, hR⟩ : ∃ R : Int, (r : Int) = R := ⟨_, rfl⟩
          rw [hR] at q1 q2 q3 hr0 hr1
          clear hA hR
          go_wp2_with fail
          refine (dspread_any hiP 4 lit _ b1 (by omega)).mono ?_
          rintro e w1 ⟨rfl, u1⟩
          rw [← HPH.out]
          replace u1 := hide u1
          clear q1 q2
          go_wp2_with fail
          refine (dspread_any loP 4 lit _ b2 (by omega)).mono ?_
          rintro e w2 ⟨rfl, u2⟩
          rw [← HPL.out]
          replace u2 := hide u2
          clear q3
          have z1 := bs_size PH
          have z2 := bs_size PL
          have t1 := bs_append PH PL
          have t2 := bs_append PL PH
          cases lit
          all_goals
            go_wp2
            go_ret
            rw [HL.out]
            exact ⟨rfl, u1.out.trans u2.out⟩
    · obtain ⟨K, rfl⟩ := Int.eq_ofNat_of_zero_le (Int.not_lt.1 hs)
      have HB := hide (show Bn.dbl (K : Int) = Bn.dblOf false K (Bn.sh 60 K) by unfold Bn.dbl; rw [if_neg h0, Int.natAbs_natCast, decide_eq_false hs])
      have hK1 : 0 < K := by omega
      have hK2 : K ≤ 32768 := by omega
      go_enter Tryz.func82, Tryz.ntmps82
      go_wp2_with fail
      go_loop [0, 6] (fun a e => ∃ i x y : Nat, i ≤ 52 ∧ Hid (x + i = 1071) ∧ a = .int .i64 y ∧ e = .int .i64 x ∧ Hid (y = K * 2 ^ i) ∧ Bn.Sm y ∧ Hid (Bn.sh 60 K = i + Bn.sh (60 - i) y)) (fun _ e => (intOf e).toNat)
      case atStart => exact ⟨0, 1071, K, by omega, rfl, rfl, rfl, by simp [Hid], by show _ < _; omega, by simp [Hid]⟩
      case round =>
        obtain ⟨i, x, a, hi, hx, rfl, rfl, HA, hlt, HS⟩ := hrel
        replace hx := hx.out
        have hlt' : a < 9007199254740992 := hlt
        have HP : Hid (2 * a = K * 2 ^ (i + 1)) := by show _ = _; rw [HA.out, Nat.pow_succ, Nat.mul_comm 2, Nat.mul_assoc]
        have hpos : 0 < a := by rw [HA.out]; exact Nat.mul_pos hK1 (Nat.pow_pos (by omega))
        have HI := hide (fun h => Bn.pow_lt (k := K) (i := i + 1) hK1 h)
        rw [show 60 - i = (60 - (i + 1)) + 1 by omega] at HS
        by_cases hc : a < 4503599627370496
        · have HT := hide (Bn.sh_step HS.out hc)
          have hi2 : i + 1 ≤ 52 := HI.out (by rw [← HP.out]; omega)
          have hc' : (a : Int) < 4503599627370496 := by omega
          have HN : Bn.Sm (2 * a) := by show _ < _; omega
          clear HS hlt' hc HI
          go_wp2
          go_round
          case rel => exact ⟨i + 1, x - 1, 2 * a, hi2, by show _ = _; omega, by go_num, by go_num, HP, HN, HT⟩
          case measure => simp [intOf]; omega
        · have HT := hide (Bn.sh_end HS.out hc)
          obtain ⟨r, hr⟩ : ∃ r, a = r + 4503599627370496 := ⟨a - 4503599627370496, by omega⟩
          have HF : Hid (Bn.dbl (K : Int) = (0 + x) * 4503599627370496 + r) := by
            have e1 : 1071 - i = x := by omega
            have e2 : K * 2 ^ i - 4503599627370496 = r := by rw [← HA.out]; omega
            rw [HB.out, HT.out]
            unfold Bn.dblOf
            rw [e1, e2]
            show _ = _
            rw [if_neg (by decide)]; omega
          obtain ⟨hiP, hhi⟩ : ∃ h, h = (0 + x) * 1048576 + r / 4294967296 := ⟨_, rfl⟩
          obtain ⟨loP, hlo⟩ : ∃ h, h = r % 4294967296 := ⟨_, rfl⟩
          have HG : Hid (Bn.dbl (K : Int) = hiP * 4294967296 + loP) := by rw [HF.out]; show _ = _; omega
          have b1 : Bn.Sm32 hiP := by show _ < _; omega
          have b2 : Bn.Sm32 loP := by show _ < _; omega
          have q1 : (a : Int) - 4503599627370496 = (r : Int) := by omega
          have q2 : (x : Int) * 1048576 + (r : Int) / 4294967296 = (hiP : Int) := by omega
          have q3 : (r : Int) % 4294967296 = (loP : Int) := by omega
          have hc' : ¬ (a : Int) < 4503599627370496 := by omega
          have hp' : (0 : Int) < (a : Int) := by omega
          have hx' : x ≤ 1071 := by omega
          have hr0 : (0 : Int) ≤ (r : Int) := by omega
          have hr1 : (r : Int) < 4503599627370496 := by omega
          have HL := hide (Bn.put_halves lit hiP loP b2)
          rw [← HG.out] at HL
          have l1 := Bn.put_length lit 4 hiP
          have l2 := Bn.put_length lit 4 loP
          obtain ⟨PH, hPH⟩ : ∃ P, P = Bn.put lit 4 hiP := ⟨_, rfl⟩
          obtain ⟨PL, hPL⟩ : ∃ P, P = Bn.put lit 4 loP := ⟨_, rfl⟩
          rw [← hPH] at HL l1
          rw [← hPL] at HL l2
          have HPH := hide hPH
          have HPL := hide hPL
          clear HS hr hc hlt' hx HI HP HA HF HG hhi hlo hPH hPL hlt HB HT hpos
          obtain ⟨A, hA⟩ : ∃ A : Int, (a : Int) = A := ⟨_, rfl⟩
          rw [hA] at hc' hp' q1 ⊢
          obtain ⟨R, hR⟩ : ∃ R : Int, (r : Int) = R := ⟨_, rfl⟩
          rw [hR] at q1 q2 q3 hr0 hr1
          clear hA hR
          go_wp2_with fail
          refine (dspread_any hiP 4 lit _ b1 (by omega)).mono ?_
          rintro e w1 ⟨rfl, u1⟩
          rw [← HPH.out]
          replace u1 := hide u1
          clear q1 q2
          go_wp2_with fail
          refine (dspread_any loP 4 lit _ b2 (by omega)).mono ?_
          rintro e w2 ⟨rfl, u2⟩
          rw [← HPL.out]
          replace u2 := hide u2
          clear q3
          have z1 := bs_size PH
          have z2 := bs_size PL
          have t1 := bs_append PH PL
          have t2 := bs_append PL PH
          cases lit
          all_goals
            go_wp2
            go_ret
            rw [HL.out]
            exact ⟨rfl, u1.out.trans u2.out⟩
end Go.Proofs.YtcclepohmhdpbaaGreatDoor
