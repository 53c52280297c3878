import Derived.Test.YtcclepohmhdpbabGreatDoorTuA
import Derived.Test.YtcclepohmhdpbabGreatDoorTuD
import Derived.Test.YtcclepohmhdpbabGreatDoorWalkB
import Derived.Test.YtcclepohmhdpbabGreatDoorTxB
/- THE DOCUMENT's NUMBERS: units, with an exponent (B). -/
namespace Go.Proofs.YtcclepohmhdpbabGreatDoor
set_option linter.all false
open Go.RowKit Go.Deep
attribute [local go_sem ↓] Go.wp_at_zero Go.wp_at_succ

end Go.Proofs.YtcclepohmhdpbabGreatDoor

/- THE DOCUMENT's NUMBERS: units, with an exponent (C). -/
namespace Go.Proofs.YtcclepohmhdpbabGreatDoor
set_option linter.all false
open Go.RowKit Go.Deep
attribute [local go_sem ↓] Go.wp_at_zero Go.wp_at_succ

end Go.Proofs.YtcclepohmhdpbabGreatDoor

/- WHAT THE DOCUMENT's READER HOLDS. -/
namespace Go.Proofs.YtcclepohmhdpbabGreatDoor
set_option linter.all false
open Go.RowKit Go.Deep

end Go.Proofs.YtcclepohmhdpbabGreatDoor

/- THE PROGRAM's READER OF TEXTS: blanks, words, marks. -/
namespace Go.Proofs.YtcclepohmhdpbabGreatDoor
set_option linter.all false
open Go.RowKit Go.Deep

/-- The reader, in memory. -/
def RT (w : World) (b : Nat) (l : List UInt8) (bad off : Bool) : Prop := VRow w b 86 [.string (bs l), .bool bad, .bool off]
theorem RT.c0 {w : World} {b : Nat} {l : List UInt8} {bad off : Bool} (h : RT w b l bad off) : w.cell? ⟨b, 0, none⟩ = some (.string (bs l)) := VRow.cell h rfl
theorem RT.c1 {w : World} {b : Nat} {l : List UInt8} {bad off : Bool} (h : RT w b l bad off) : w.cell? ⟨b, 1, none⟩ = some (.bool bad) := VRow.cell h rfl
theorem RT.c2 {w : World} {b : Nat} {l : List UInt8} {bad off : Bool} (h : RT w b l bad off) : w.cell? ⟨b, 2, none⟩ = some (.bool off) := VRow.cell h rfl
theorem RT.f {w : World} {b : Nat} {l : List UInt8} {bad off : Bool} (h : RT w b l bad off) (i : Nat) : w.frozen? ⟨b, i, none⟩ = false := VRow.frozen h i
theorem RT.rest {w : World} {b : Nat} {l : List UInt8} {bad off : Bool} (h : RT w b l bad off) (t : List UInt8) : RT (w.setCell ⟨b, 0, none⟩ (.string (bs t))) b t bad off := VRow.set h 0 _
theorem RT.bad {w : World} {b : Nat} {l : List UInt8} {bad off : Bool} (h : RT w b l bad off) (o : Bool) : RT (w.setCell ⟨b, 1, none⟩ (.bool o)) b l o off := VRow.set h 1 _
theorem RT.off {w : World} {b : Nat} {l : List UInt8} {bad off : Bool} (h : RT w b l bad off) (o : Bool) : RT (w.setCell ⟨b, 2, none⟩ (.bool o)) b l bad o := VRow.set h 2 _
theorem RT.facts {w : World} {b : Nat} {l : List UInt8} {bad off : Bool} (h : RT w b l bad off) :
    w.cell? ⟨b, 0, none⟩ = some (.string (bs l)) ∧ w.cell? ⟨b, 1, none⟩ = some (.bool bad) ∧ w.cell? ⟨b, 2, none⟩ = some (.bool off) ∧ w.frozen? ⟨b, 0, none⟩ = false ∧ w.frozen? ⟨b, 1, none⟩ = false ∧ w.frozen? ⟨b, 2, none⟩ = false :=
  ⟨h.c0, h.c1, h.c2, h.f 0, h.f 1, h.f 2⟩

namespace Tx
theorem bare_step {l : List UInt8} {n : Nat} (hn : n < l.length) : bare (l.drop n) = if blank (at_ l n) then bare (l.drop (n + 1)) else l.drop n := by
  rw [at_lt hn, drop_cons hn, bare_cons]
theorem bare_end {l : List UInt8} {n : Nat} (hn : ¬ n < l.length) : bare (l.drop n) = l.drop n := by
  rw [List.drop_of_length_le (Nat.le_of_not_lt hn)]; rfl
end Tx

set_option maxHeartbeats 1000000 in
theorem blanks_any (l : List UInt8) (bad off : Bool) (rb : Nat) (w : World) (hr : RT w rb l bad off) (hl : l.length ≤ 6000) :
    Calls Tryz.prog 84 #[.pointer (some ⟨rb, 0, none⟩)] w fun e w' => ∃ n : Nat, e = .returned (.int .i64 n) ∧ n = l.length - (Tx.bare l).length ∧ RT w' rb (Tx.bare l) bad off ∧ Fr (· = rb) w w' := by
  obtain ⟨e0, e1, e2, e3, e4, e5⟩ := bs_tells l
  have c0 := hr.c0
  have f0 := hr.f 0
  have HR := hide hr
  clear e3 e4 e5 hr
  go_enter Tryz.func84, Tryz.ntmps84
  go_wp2
  go_loop [3] (fun i => ∃ n : Nat, n ≤ l.length ∧ i = .int .i64 n ∧ Hid (Tx.bare l = Tx.bare (l.drop n))) (fun i => l.length - (intOf i).toNat)
  case atStart => exact ⟨0, Nat.zero_le _, rfl, rfl⟩
  case round =>
    obtain ⟨n, hn, rfl, HN⟩ := hrel
    by_cases hlt : n < l.length
    · have HS := hide (HN.out.trans (Tx.bare_step hlt))
      clear HN
      by_cases hb : Tx.blank (Tx.at_ l n) = true
      · go_wp2_with (go_at_call 124; refine (wisBlank_any _ _).mono ?_; rintro e w' ⟨rfl, rfl⟩; rw [hb])
        go_round
        case rel => exact ⟨n + 1, by omega, by go_num, by have := HS.out; rw [if_pos hb] at this; exact this⟩
        case measure => simp [intOf]; omega
      · have hb : Tx.blank (Tx.at_ l n) = false := by simpa using hb
        have HT : Hid (Tx.bare l = l.drop n) := by have := HS.out; rw [hb] at this; exact this
        clear HS
        go_wp2_with (go_at_call 124; refine (wisBlank_any _ _).mono ?_; rintro e w' ⟨rfl, rfl⟩; rw [hb])
        go_ret
        exact ⟨n, rfl, by rw [HT.out]; simp; omega, by rw [HT.out]; exact HR.out.rest _, (Fr.refl (· = rb) _).setCell (p := ⟨rb, 0, none⟩) rfl _⟩
    · have HT : Hid (Tx.bare l = l.drop n) := HN.out.trans (Tx.bare_end hlt)
      clear HN
      go_wp2_with (go_at_call 124; fail)
      go_ret
      exact ⟨n, rfl, by rw [HT.out]; simp; omega, by rw [HT.out]; exact HR.out.rest _, (Fr.refl (· = rb) _).setCell (p := ⟨rb, 0, none⟩) rfl _⟩
namespace Tx
/-- k stands next. -/
def pre (k l : List UInt8) : Bool := l.take k.length == k
/-- What is left behind it, if it stands next. -/
def aft (k l : List UInt8) : List UInt8 := if pre k l then l.drop k.length else l
theorem aft_t {k l : List UInt8} (h : pre k l = true) : aft k l = l.drop k.length := by simp [aft, h]
theorem aft_f {k l : List UInt8} (h : pre k l = false) : aft k l = l := by simp [aft, h]
theorem aft_le (k l : List UInt8) : (aft k l).length ≤ l.length := by unfold aft; split <;> simp
end Tx

set_option maxHeartbeats 1000000 in
theorem word_any (k l : List UInt8) (bad off : Bool) (rb : Nat) (w : World) (hr : RT w rb l bad off) (hl : l.length ≤ 6000) (hk : k.length ≤ 6000) :
    Calls Tryz.prog 86 #[.pointer (some ⟨rb, 0, none⟩), .string (bs k)] w fun e w' => e = .returned (.bool (Tx.pre k l)) ∧ RT w' rb (Tx.aft k l) bad off ∧ Fr (· = rb) w w' := by
  obtain ⟨e0, e1, e2, e3, e4, e5⟩ := bs_tells l
  have k0 := bs_size k
  have k4 := bs_toList k
  have k3 : (bs (l.take k.length)).toList = l.take k.length := bs_toList _
  have c0 := hr.c0
  have f0 := hr.f 0
  have HR := hide hr
  clear e1 e4 e5 hr
  by_cases hlen : l.length < k.length
  · have HP : Hid (Tx.pre k l = false) := by
      unfold Tx.pre
      refine beq_eq_false_iff_ne.2 fun e => ?_
      have := congrArg List.length e
      simp at this
      omega
    go_enter Tryz.func86, Tryz.ntmps86
    go_wp2
    go_ret
    rw [HP.out, Tx.aft_f HP.out]
    exact ⟨rfl, HR.out, Fr.refl _ _⟩
  · by_cases hp : (l.take k.length == k) = true
    · have HP : Hid (Tx.pre k l = true) := hp
      go_enter Tryz.func86, Tryz.ntmps86
      go_wp2
      go_ret
      rw [HP.out, Tx.aft_t HP.out]
      exact ⟨rfl, HR.out.rest _, (Fr.refl (· = rb) _).setCell (p := ⟨rb, 0, none⟩) rfl _⟩
    · have hp : (l.take k.length == k) = false := by simpa using hp
      have HP : Hid (Tx.pre k l = false) := hp
      go_enter Tryz.func86, Tryz.ntmps86
      go_wp2
      go_ret
      rw [HP.out, Tx.aft_f HP.out]
      exact ⟨rfl, HR.out, Fr.refl _ _⟩

set_option maxHeartbeats 1000000 in
theorem mark_any (k l : List UInt8) (bad off : Bool) (rb : Nat) (w : World) (hr : RT w rb l bad off) (hl : l.length ≤ 6000) (hk : k.length ≤ 6000) :
    Calls Tryz.prog 116 #[.pointer (some ⟨rb, 0, none⟩), .string (bs k)] w fun e w' => e = .returned (.bool (Tx.pre k (Tx.bare l))) ∧ RT w' rb (Tx.aft k (Tx.bare l)) bad off ∧ Fr (· = rb) w w' := by
  have HR := hide hr
  have hbl : (Tx.bare l).length ≤ 6000 := Nat.le_trans (Tx.bare_le l) hl
  clear hr
  go_enter Tryz.func116, Tryz.ntmps116
  go_wp2_with (first
    | (go_at_call 84; refine (blanks_any l bad off rb _ HR.out hl).mono ?_; rintro e w1 ⟨n, rfl, hn, h1, h2⟩; replace h1 := hide h1; replace h2 := hide h2; clear hn)
    | (go_at_call 86; refine (word_any k (Tx.bare l) bad off rb _ h1.out hbl hk).mono ?_; rintro e w2 ⟨rfl, h3, h4⟩; replace h3 := hide h3; replace h4 := hide h4))
  go_ret
  exact ⟨rfl, h3.out, h2.out.trans h4.out⟩
end Go.Proofs.YtcclepohmhdpbabGreatDoor

/- HOW LONG A NUMBER IS: the document's Number. -/
namespace Go.Proofs.YtcclepohmhdpbabGreatDoor
set_option linter.all false
open Go.RowKit Go.Deep

theorem ne_facts {l : List UInt8} (h : l ≠ []) : l.isEmpty = false ∧ (l == []) = false ∧ 0 < l.length := by
  cases l with
  | nil => exact absurd rfl h
  | cons c r => simp

end Go.Proofs.YtcclepohmhdpbabGreatDoor

/- THE DOCUMENT's READER OF TEXTS: signs. -/
namespace Go.Proofs.YtcclepohmhdpbabGreatDoor
set_option linter.all false
open Go.RowKit Go.Deep

namespace Tx
theorem pre_nil (c : UInt8) : pre [c] [] = false := rfl
theorem pre_cons (c a : UInt8) (r : List UInt8) : pre [c] (a :: r) = ((a.toNat : Int) == (c.toNat : Int)) := by
  rw [Bool.eq_iff_iff]
  simp [pre]
  constructor
  · intro h; rw [h]
  · intro h; exact UInt8.toNat_inj.1 (by omega)
end Tx

namespace Tx
def fin (t : List UInt8) (bad wide : Bool) : Int := if bad || !t.isEmpty then 3 else if wide then 4 else 0
end Tx

end Go.Proofs.YtcclepohmhdpbabGreatDoor
