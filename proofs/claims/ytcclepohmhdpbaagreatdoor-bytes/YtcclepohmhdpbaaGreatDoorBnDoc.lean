/- THE DOCUMENT's BYTES, READ: numbers, doubles. -/
import Derived.Test.YtcclepohmhdpbaaGreatDoorBnUnits
import Derived.Test.YtcclepohmhdpbaaGreatDoorSaid
namespace Go.Proofs.YtcclepohmhdpbaaGreatDoor
set_option linter.all false
open Go.RowKit Go.Deep

namespace Bn
theorem take_lt4 (lit : Bool) {l : List UInt8} {n k : Nat} (hk : k < n) (hn : n ≤ 4) (hl : n ≤ l.length) : big ((ord lit (l.take n)).take k) < 16777216 := by
  have h := big_lt ((ord lit (l.take n)).take k)
  have hq : ((ord lit (l.take n)).take k).length ≤ 3 := by rw [List.length_take]; omega
  have : 256 ^ ((ord lit (l.take n)).take k).length ≤ 256 ^ 3 := Nat.pow_le_pow_right (by omega) hq
  have e : 256 ^ 3 = 16777216 := rfl
  omega
end Bn

set_option maxRecDepth 100000 in
set_option maxHeartbeats 2000000 in
theorem dvalue_any (l : List UInt8) (lit : Bool) (w : World) (hl : l.length ≤ 4) :
    Calls Tryz.prog 114 #[.string (bs l), .bool lit] w fun e w' => e = .returned (.int .i64 (Bn.num lit l : Nat)) ∧ w' = w := by
  obtain ⟨e0, e1, e2, e3, e4, e5⟩ := bs_tells l
  clear e2 e3 e4 e5
  have HE := hide (show Bn.num lit (l.take l.length) = Bn.num lit l by rw [List.take_length])
  go_enter Tryz.func114, Tryz.ntmps114
  go_wp2
  go_loop [5, 6] (fun v i => ∃ k : Nat, k ≤ l.length ∧ i = .int .i64 k ∧ v = .int .i64 (Bn.big ((Bn.ord lit (l.take l.length)).take k) : Nat)) (fun _ i => l.length - (intOf i).toNat)
  case atStart => exact ⟨0, Nat.zero_le _, rfl, by simp [Bn.big, Bn.bigA]⟩
  case round =>
    obtain ⟨k, hk, rfl, rfl⟩ := hrel
    by_cases hlt : k < l.length
    · have HS := hide (Bn.num_step lit hlt (Nat.le_refl _))
      have hv := Bn.take_lt4 lit hlt hl (Nat.le_refl _)
      generalize hV : Bn.big ((Bn.ord lit (l.take l.length)).take k) = V at *
      generalize hV2 : Bn.big ((Bn.ord lit (l.take l.length)).take (k + 1)) = V2 at *
      have HV2 := hide hV2
      clear hV hV2
      cases lit
      · have HX : Hid ((V2 : Int) = V * 256 + Tx.at_ l k) := HS.out
        have hat := Tx.at_nn (l := l) (i := k) (by omega)
        obtain ⟨h0, h1⟩ := hat
        clear HS
        go_wp2
        go_round
        case rel => exact ⟨k + 1, by omega, by go_num, by rw [HV2.out, HX.out]; go_num⟩
        case measure => simp [intOf]; omega
      · have HX : Hid ((V2 : Int) = V * 256 + Tx.at_ l (l.length - 1 - k)) := HS.out
        have hat := Tx.at_nn (l := l) (i := l.length - 1 - k) (by omega)
        obtain ⟨h0, h1⟩ := hat
        clear HS
        go_wp2
        go_round
        case rel => exact ⟨k + 1, by omega, by go_num, by rw [HV2.out, HX.out]; go_num⟩
        case measure => simp [intOf]; omega
    · have hkn : k = l.length := by omega
      subst hkn
      have HF := hide (Bn.num_end lit (Nat.le_refl l.length))
      rw [HF.out, HE.out]
      go_wp2
      go_ret
      exact ⟨rfl, rfl⟩

/-- What a number that is cut off has to do with what was there. -/
def CutP (n : Nat) (lit : Bool) (l : List UInt8) (bad : Bool) (v : Nat) (l' : List UInt8) (bad' : Bool) : Prop :=
  (bad' = true ∧ (bad = true ∨ l.length < n) ∧ v = 0) ∨ (bad' = false ∧ bad = false ∧ ¬ l.length < n ∧ v = Bn.num lit (l.take n) ∧ l' = l.drop n)

def CutPost (n : Nat) (lit : Bool) (l : List UInt8) (bad wide : Bool) (b : Nat) (w : World) (e : Ending) (w' : World) : Prop :=
  ∃ (v : Nat) (l' : List UInt8) (bad' : Bool), e = .returned (.int .i64 v) ∧ SD w' b l' bad' wide ∧ Fr (· = b) w w' ∧ CutP n lit l bad v l' bad' ∧ v < 4294967296 ∧ l'.length ≤ 6000

set_option maxHeartbeats 1000000 in
theorem dcut_any (n : Nat) (lit : Bool) (l : List UInt8) (bad wide : Bool) (b : Nat) (w : World) (hr : SD w b l bad wide) (hn : n ≤ 4) (hl : l.length ≤ 6000) :
    Calls Tryz.prog 74 #[.pointer (some ⟨b, 0, none⟩), .int .i64 n, .bool lit] w (CutPost n lit l bad wide b w) := by
  obtain ⟨e0, e1, e2, e3, e4, e5⟩ := bs_tells l
  obtain ⟨c0, c1, c2, f0, f1, f2⟩ := hr.facts
  have HR := hide hr
  clear hr e1 e4 e5 c2 f2
  by_cases hb : bad = true ∨ l.length < n
  · have HB := hide hb
    cases bad
    · have hlt : l.length < n := hb.resolve_left (by decide)
      clear hb
      go_enter Tryz.func74, Tryz.ntmps74
      go_wp2
      go_ret
      exact ⟨0, l, true, rfl, HR.out.bad true, (Fr.refl (· = b) _).setCell (p := ⟨b, 1, none⟩) rfl _, .inl ⟨rfl, HB.out, rfl⟩, by omega, hl⟩
    · clear hb
      go_enter Tryz.func74, Tryz.ntmps74
      go_wp2
      go_ret
      exact ⟨0, l, true, rfl, HR.out.bad true, (Fr.refl (· = b) _).setCell (p := ⟨b, 1, none⟩) rfl _, .inl ⟨rfl, .inl rfl, rfl⟩, by omega, hl⟩
  · have hbf : bad = false := by cases bad <;> simp_all
    subst hbf
    have hlt : ¬ l.length < n := fun e => hb (.inr e)
    clear hb
    have htl : (l.take n).length = n := by rw [List.length_take]; omega
    go_enter Tryz.func74, Tryz.ntmps74
    go_wp2_with fail
    refine (dvalue_any (l.take n) lit _ (by omega)).mono ?_
    rintro e w1 ⟨rfl, rfl⟩
    go_wp2
    go_ret
    refine ⟨_, l.drop n, false, rfl, HR.out.rest _, (Fr.refl (· = b) _).setCell (p := ⟨b, 0, none⟩) rfl _, .inr ⟨rfl, rfl, hlt, rfl, rfl⟩, ?_, by simp; omega⟩
    have h := Bn.num_lt lit (l.take n)
    rw [htl] at h
    have : 256 ^ n ≤ 256 ^ 4 := Nat.pow_le_pow_right (by omega) hn
    have e : 256 ^ 4 = 4294967296 := rfl
    omega
end Go.Proofs.YtcclepohmhdpbaaGreatDoor
