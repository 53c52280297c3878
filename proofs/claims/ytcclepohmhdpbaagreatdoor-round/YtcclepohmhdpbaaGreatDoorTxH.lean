/- THE DOCUMENT's READER OF TEXTS: signs. -/
import Derived.Test.YtcclepohmhdpbaaGreatDoorTxG
import Derived.Test.YtcclepohmhdpbaaGreatDoorTxC
namespace Go.Proofs.YtcclepohmhdpbaaGreatDoor
set_option linter.all false
open Go.RowKit Go.Deep

namespace Tx
theorem pre_nil (c : UInt8) : pre [c] [] = false := rfl
theorem pre_cons (c a : UInt8) (r : List UInt8) : pre [c] (a :: r) = ((a.toNat : Int) == (c.toNat : Int)) := by
  rw [Bool.eq_iff_iff]
  simp [pre]
  constructor
  · intro h; rw [h]
  · intro h; exact UInt8.toNat_inj.1 (by omega)
end Tx

set_option maxHeartbeats 1000000 in
theorem comes_any (c : UInt8) (l : List UInt8) (bad wide : Bool) (b : Nat) (w : World) (hr : SD w b l bad wide) :
    Calls Tryz.prog 113 #[.pointer (some ⟨b, 0, none⟩), .int .u8 (c.toNat : Nat)] w fun e w' => e = .returned (.bool (!bad && Tx.pre [c] (Tx.bare l))) ∧ w' = w := by
  have c0 := hr.c0
  have c1 := hr.c1
  have HR := hide hr
  clear hr
  obtain ⟨t, ht⟩ : ∃ t, t = Tx.bare l := ⟨_, rfl⟩
  rw [← ht]
  have HT := hide ht
  clear ht
  obtain ⟨e0, e1, e2, e3, e4, e5⟩ := bs_tells t
  clear e2 e3 e5
  cases bad
  · cases t with
    | nil =>
      go_enter Tryz.func113, Tryz.ntmps113
      go_wp2_with (go_at_call 70; refine (bare_any l _).mono ?_; rintro e w' ⟨rfl, rfl⟩; rw [← HT.out])
      go_ret
      exact ⟨rfl, rfl⟩
    | cons a r =>
      have e6 := Tx.at_zero a r
      rw [Tx.pre_cons]
      go_enter Tryz.func113, Tryz.ntmps113
      go_wp2_with (go_at_call 70; refine (bare_any l _).mono ?_; rintro e w' ⟨rfl, rfl⟩; rw [← HT.out])
      go_ret
      exact ⟨rfl, rfl⟩
  · go_enter Tryz.func113, Tryz.ntmps113
    go_wp2_with (go_at_call 70; refine (bare_any l _).mono ?_; rintro e w' ⟨rfl, rfl⟩; rw [← HT.out])
    go_ret
    exact ⟨rfl, rfl⟩

set_option maxHeartbeats 1000000 in
theorem sign_any (c : UInt8) (l : List UInt8) (bad wide : Bool) (b : Nat) (w : World) (hr : SD w b l bad wide) :
    Calls Tryz.prog 111 #[.pointer (some ⟨b, 0, none⟩), .int .u8 (c.toNat : Nat)] w fun e w' => e = .returned (.tuple #[]) ∧ SD w' b (Tx.aft [c] (Tx.bare l)) (bad || !Tx.pre [c] (Tx.bare l)) wide ∧ Fr (· = b) w w' := by
  have c0 := hr.c0
  have c1 := hr.c1
  have f0 := hr.f 0
  have f1 := hr.f 1
  have HR := hide hr
  obtain ⟨t, ht⟩ : ∃ t, t = Tx.bare l := ⟨_, rfl⟩
  rw [← ht]
  have HT := hide ht
  have f2 : (w.setCell ⟨b, 0, none⟩ (.string (bs t))).frozen? ⟨b, 0, none⟩ = false := (hr.rest t).f 0
  have f3 : (w.setCell ⟨b, 0, none⟩ (.string (bs t))).frozen? ⟨b, 1, none⟩ = false := (hr.rest t).f 1
  have c2 : (w.setCell ⟨b, 0, none⟩ (.string (bs t))).cell? ⟨b, 0, none⟩ = some (.string (bs t)) := (hr.rest t).c0
  have c3 : (w.setCell ⟨b, 0, none⟩ (.string (bs t))).cell? ⟨b, 1, none⟩ = some (.bool bad) := (hr.rest t).c1
  clear ht hr
  obtain ⟨e0, e1, e2, e3, e4, e5⟩ := bs_tells t
  clear e3 e5
  cases t with
  | nil =>
    have HA : Hid (Tx.aft [c] [] = []) := rfl
    have HB : Hid ((bad || !Tx.pre [c] []) = true) := by rw [Tx.pre_nil]; simp [Hid]
    go_enter Tryz.func111, Tryz.ntmps111
    go_wp2_with (go_at_call 70; refine (bare_any l _).mono ?_; rintro e w' ⟨rfl, rfl⟩; rw [← HT.out])
    refine bodyPost_ret (v := .tuple #[]) (by simp [results, Tryz.results111, go_sem]) rfl ?_
    rw [HA.out, HB.out]
    exact ⟨rfl, (HR.out.rest []).bad true, ((Fr.refl (· = b) _).setCell (p := ⟨b, 0, none⟩) rfl _).setCell (p := ⟨b, 1, none⟩) rfl _⟩
  | cons a r =>
    have e6 := Tx.at_zero a r
    have e7 : (bs (a :: r)).extract 1 (r.length + 1) = bs r := by simpa using e2 1
    by_cases hc : ((a.toNat : Int) == (c.toNat : Int)) = true
    · have HP := hide ((Tx.pre_cons c a r).trans hc)
      have HA : Hid (Tx.aft [c] (a :: r) = r) := by rw [Tx.aft_t HP.out]; exact rfl
      have HB : Hid ((bad || !Tx.pre [c] (a :: r)) = bad) := by rw [HP.out]; simp [Hid]
      go_enter Tryz.func111, Tryz.ntmps111
      go_wp2_with (go_at_call 70; refine (bare_any l _).mono ?_; rintro e w' ⟨rfl, rfl⟩; rw [← HT.out])
      go_end0
      rw [HA.out, HB.out]
      exact ⟨rfl, (HR.out.rest (a :: r)).rest r, ((Fr.refl (· = b) _).setCell (p := ⟨b, 0, none⟩) rfl _).setCell (p := ⟨b, 0, none⟩) rfl _⟩
    · have hc : ((a.toNat : Int) == (c.toNat : Int)) = false := by simpa using hc
      have HP := hide ((Tx.pre_cons c a r).trans hc)
      have HA : Hid (Tx.aft [c] (a :: r) = a :: r) := Tx.aft_f HP.out
      have HB : Hid ((bad || !Tx.pre [c] (a :: r)) = true) := by rw [HP.out]; simp [Hid]
      go_enter Tryz.func111, Tryz.ntmps111
      go_wp2_with (go_at_call 70; refine (bare_any l _).mono ?_; rintro e w' ⟨rfl, rfl⟩; rw [← HT.out])
      refine bodyPost_ret (v := .tuple #[]) (by simp [results, Tryz.results111, go_sem]) rfl ?_
      rw [HA.out, HB.out]
      exact ⟨rfl, (HR.out.rest (a :: r)).bad true, ((Fr.refl (· = b) _).setCell (p := ⟨b, 0, none⟩) rfl _).setCell (p := ⟨b, 1, none⟩) rfl _⟩
namespace Tx
def fin (t : List UInt8) (bad wide : Bool) : Int := if bad || !t.isEmpty then 3 else if wide then 4 else 0
end Tx

set_option maxHeartbeats 1000000 in
theorem done_any (l : List UInt8) (bad wide : Bool) (b : Nat) (w : World) (hr : SD w b l bad wide) :
    Calls Tryz.prog 71 #[.pointer (some ⟨b, 0, none⟩)] w fun e w' => e = .returned (.int .i64 (Tx.fin (Tx.bare l) bad wide)) ∧ SD w' b (Tx.bare l) bad wide ∧ Fr (· = b) w w' := by
  have c0 := hr.c0
  have f0 := hr.f 0
  have HR := hide hr
  obtain ⟨t, ht⟩ : ∃ t, t = Tx.bare l := ⟨_, rfl⟩
  rw [← ht]
  have HT := hide ht
  have c2 : (w.setCell ⟨b, 0, none⟩ (.string (bs t))).cell? ⟨b, 0, none⟩ = some (.string (bs t)) := (hr.rest t).c0
  have c3 : (w.setCell ⟨b, 0, none⟩ (.string (bs t))).cell? ⟨b, 1, none⟩ = some (.bool bad) := (hr.rest t).c1
  have c4 : (w.setCell ⟨b, 0, none⟩ (.string (bs t))).cell? ⟨b, 2, none⟩ = some (.bool wide) := (hr.rest t).c2
  clear ht hr
  have e4 := bs_toList t
  obtain ⟨R, hR⟩ : ∃ R, R = Tx.fin t bad wide := ⟨_, rfl⟩
  rw [← hR]
  have HF := hide hR
  clear hR
  cases bad <;> cases wide <;> cases t
  all_goals
    go_enter Tryz.func71, Tryz.ntmps71
    go_wp2_with (go_at_call 70; refine (bare_any l _).mono ?_; rintro e w' ⟨rfl, rfl⟩; rw [← HT.out])
    go_ret
    rw [HF.out]
    exact ⟨rfl, HR.out.rest _, (Fr.refl (· = b) _).setCell (p := ⟨b, 0, none⟩) rfl _⟩
end Go.Proofs.YtcclepohmhdpbaaGreatDoor
