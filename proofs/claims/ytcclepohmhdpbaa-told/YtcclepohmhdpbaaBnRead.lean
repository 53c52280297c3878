/- THE PROGRAM's BYTES, READ: numbers. -/
import Derived.Test.YtcclepohmhdpbaaBnBits
import Derived.Test.YtcclepohmhdpbaaStr
import Derived.Test.YtcclepohmhdpbaaFrame
import Derived.WalkKit
namespace Go.Proofs.Ytcclepohmhdpbaa
set_option linter.all false
open Go.RowKit Go.Deep

/-- The reader of bytes, in memory. -/
def RB (w : World) (b : Nat) (l : List UInt8) (ord : Nat) (bad off : Bool) : Prop := VRow w b 50 [.string (bs l), .int .u64 ord, .bool bad, .bool off]
theorem RB.c0 {w : World} {b : Nat} {l : List UInt8} {ord : Nat} {bad off : Bool} (h : RB w b l ord bad off) : w.cell? ⟨b, 0, none⟩ = some (.string (bs l)) := VRow.cell h rfl
theorem RB.c1 {w : World} {b : Nat} {l : List UInt8} {ord : Nat} {bad off : Bool} (h : RB w b l ord bad off) : w.cell? ⟨b, 1, none⟩ = some (.int .u64 ord) := VRow.cell h rfl
theorem RB.c2 {w : World} {b : Nat} {l : List UInt8} {ord : Nat} {bad off : Bool} (h : RB w b l ord bad off) : w.cell? ⟨b, 2, none⟩ = some (.bool bad) := VRow.cell h rfl
theorem RB.c3 {w : World} {b : Nat} {l : List UInt8} {ord : Nat} {bad off : Bool} (h : RB w b l ord bad off) : w.cell? ⟨b, 3, none⟩ = some (.bool off) := VRow.cell h rfl
theorem RB.f {w : World} {b : Nat} {l : List UInt8} {ord : Nat} {bad off : Bool} (h : RB w b l ord bad off) (i : Nat) : w.frozen? ⟨b, i, none⟩ = false := VRow.frozen h i
theorem RB.rest {w : World} {b : Nat} {l : List UInt8} {ord : Nat} {bad off : Bool} (h : RB w b l ord bad off) (t : List UInt8) : RB (w.setCell ⟨b, 0, none⟩ (.string (bs t))) b t ord bad off := VRow.set h 0 _
theorem RB.ord {w : World} {b : Nat} {l : List UInt8} {ord : Nat} {bad off : Bool} (h : RB w b l ord bad off) (o : Nat) : RB (w.setCell ⟨b, 1, none⟩ (.int .u64 o)) b l o bad off := VRow.set h 1 _
theorem RB.bad {w : World} {b : Nat} {l : List UInt8} {ord : Nat} {bad off : Bool} (h : RB w b l ord bad off) (o : Bool) : RB (w.setCell ⟨b, 2, none⟩ (.bool o)) b l ord o off := VRow.set h 2 _
theorem RB.off {w : World} {b : Nat} {l : List UInt8} {ord : Nat} {bad off : Bool} (h : RB w b l ord bad off) (o : Bool) : RB (w.setCell ⟨b, 3, none⟩ (.bool o)) b l ord bad o := VRow.set h 3 _

namespace Bn
theorem num_step (lit : Bool) {l : List UInt8} {n k : Nat} (hk : k < n) (hn : n ≤ l.length) :
    (big ((ord lit (l.take n)).take (k + 1)) : Int) = (big ((ord lit (l.take n)).take k) : Int) * 256 + Tx.at_ l (if lit = true then n - 1 - k else k) := by
  have hq : (ord lit (l.take n)).length = n := by rw [ord_length, List.length_take]; omega
  have e : (ord lit (l.take n)).take (k + 1) = (ord lit (l.take n)).take k ++ [(ord lit (l.take n))[k]'(by omega)] := List.take_succ_eq_append_getElem (by omega)
  have e2 : ((ord lit (l.take n))[k]'(by omega)).toNat = Tx.at_ l (if lit = true then n - 1 - k else k) := by
    cases lit
    · simp only [ord]
      simp only [Bool.false_eq_true, if_false]
      rw [Tx.at_lt (by omega)]
      simp
    · simp only [ord, if_true]
      rw [Tx.at_lt (by omega), List.getElem_reverse, List.getElem_take]
      have : (List.take n l).length - 1 - k = n - 1 - k := by rw [List.length_take]; omega
      simp only [this]
  rw [e, big_snoc, ← e2]
  omega
theorem take_lt (lit : Bool) {l : List UInt8} {n k : Nat} (hk : k < n) (hn : n ≤ 8) (hl : n ≤ l.length) : big ((ord lit (l.take n)).take k) < 72057594037927936 := by
  have h := big_lt ((ord lit (l.take n)).take k)
  have hq : ((ord lit (l.take n)).take k).length ≤ 7 := by rw [List.length_take]; omega
  have : 256 ^ ((ord lit (l.take n)).take k).length ≤ 256 ^ 7 := Nat.pow_le_pow_right (by omega) hq
  have e : 256 ^ 7 = 72057594037927936 := rfl
  omega
theorem num_end (lit : Bool) {l : List UInt8} {n : Nat} (hn : n ≤ l.length) : big ((ord lit (l.take n)).take n) = num lit (l.take n) := by
  unfold num
  rw [List.take_of_length_le]
  rw [ord_length, List.length_take]; omega
theorem byte_close {V V2 : Nat} {a : Int} (hv : V < 72057594037927936) (ha : 0 ≤ a ∧ a ≤ 255) (h : (V2 : Int) = V * 256 + a) : Value.int .u64 (bits .or .u64 ((V : Int) * 256) a) = .int .u64 (V2 : Int) := by
  obtain ⟨b, rfl⟩ := Int.eq_ofNat_of_zero_le ha.1
  rw [u64_byte V b hv (by omega), h]
  congr 1
end Bn

set_option maxHeartbeats 1000000 in
theorem rnum_bad (n : Nat) (l : List UInt8) (o : Nat) (off bad : Bool) (rb : Nat) (w : World) (hr : RB w rb l o bad off) (hb : bad = true ∨ l.length < n) (hl : l.length ≤ 6000) (hn : n ≤ 8) :
    Calls Try.prog 39 #[.pointer (some ⟨rb, 0, none⟩), .int .i64 n] w fun e w' => e = .returned (.int .u64 0) ∧ RB w' rb l o true off ∧ Fr (· = rb) w w' := by
  have e0 := bs_size l
  have c0 := hr.c0
  have c2 := hr.c2
  have f2 := hr.f 2
  have HR := hide hr
  clear hr
  cases bad
  · have hb' : l.length < n := hb.resolve_left (by decide)
    clear hb
    go_enter Try.func39, Try.ntmps39
    go_wp2
    go_ret
    exact ⟨rfl, HR.out.bad true, (Fr.refl (· = rb) _).setCell (p := ⟨rb, 2, none⟩) rfl _⟩
  · clear hb
    go_enter Try.func39, Try.ntmps39
    go_wp2
    go_ret
    exact ⟨rfl, HR.out.bad true, (Fr.refl (· = rb) _).setCell (p := ⟨rb, 2, none⟩) rfl _⟩

set_option maxRecDepth 100000 in
set_option maxHeartbeats 2000000 in
theorem rnum_ok (n : Nat) (l : List UInt8) (o : Nat) (off : Bool) (rb : Nat) (w : World) (hr : RB w rb l o false off) (hl : ¬ l.length < n) (hl6 : l.length ≤ 6000) (hn : n ≤ 8) (lit : Bool) (hlit : lit = ((o : Int) == 1)) :
    Calls Try.prog 39 #[.pointer (some ⟨rb, 0, none⟩), .int .i64 n] w fun e w' => e = .returned (.int .u64 (Bn.num lit (l.take n))) ∧ RB w' rb (l.drop n) o false off ∧ Fr (· = rb) w w' := by
  obtain ⟨e0, e1, e2, e3, e4, e5⟩ := bs_tells l
  have c0 := hr.c0
  have c1 := hr.c1
  have c2 := hr.c2
  have f0 := hr.f 0
  have HR := hide hr
  clear e3 e4 e5 hr
  go_enter Try.func39, Try.ntmps39
  go_wp2
  go_loop [5, 6] (fun v i => ∃ k : Nat, k ≤ n ∧ i = .int .i64 k ∧ v = .int .u64 (Bn.big ((Bn.ord lit (l.take n)).take k) : Nat)) (fun _ i => n - (intOf i).toNat)
  case atStart => exact ⟨0, Nat.zero_le _, rfl, by simp [Bn.big, Bn.bigA]⟩
  case round =>
    obtain ⟨k, hk, rfl, rfl⟩ := hrel
    by_cases hlt : k < n
    · have HS := hide (Bn.num_step lit hlt (Nat.le_of_not_lt hl))
      have hv := Bn.take_lt lit hlt hn (Nat.le_of_not_lt hl)
      generalize hV : Bn.big ((Bn.ord lit (l.take n)).take k) = V at *
      generalize hV2 : Bn.big ((Bn.ord lit (l.take n)).take (k + 1)) = V2 at *
      have HV2 := hide hV2
      clear hV hV2
      cases lit
      · have ho := hlit.symm
        clear hlit
        have HX : Hid ((V2 : Int) = V * 256 + Tx.at_ l k) := HS.out
        have hat := Tx.at_nn (l := l) (i := k) (by omega)
        clear HS
        go_wp2
        go_round
        case rel => exact ⟨k + 1, by omega, by go_num, by rw [HV2.out]; exact Bn.byte_close hv hat HX.out⟩
        case measure => simp [intOf]; omega
      · have ho := hlit.symm
        clear hlit
        have HX : Hid ((V2 : Int) = V * 256 + Tx.at_ l (n - 1 - k)) := HS.out
        have hat := Tx.at_nn (l := l) (i := n - 1 - k) (by omega)
        clear HS
        go_wp2
        go_round
        case rel => exact ⟨k + 1, by omega, by go_num, by rw [HV2.out]; exact Bn.byte_close hv hat HX.out⟩
        case measure => simp [intOf]; omega
    · have hkn : k = n := by omega
      subst hkn
      have HE := hide (Bn.num_end lit (Nat.le_of_not_lt hl))
      rw [HE.out]
      clear HE
      go_wp2
      go_ret
      exact ⟨rfl, HR.out.rest _, (Fr.refl (· = rb) _).setCell (p := ⟨rb, 0, none⟩) rfl _⟩
end Go.Proofs.Ytcclepohmhdpbaa
