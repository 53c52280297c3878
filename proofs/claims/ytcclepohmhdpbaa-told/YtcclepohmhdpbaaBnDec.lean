/- THE PROGRAM's BYTES, READ: Read. -/
import Derived.Test.YtcclepohmhdpbaaBnSet
import Derived.Test.YtcclepohmhdpbaaDec
namespace Go.Proofs.Ytcclepohmhdpbaa
set_option linter.all false
open Go.RowKit Go.Deep

namespace Bn
/-- The set that bytes say, if they say one. -/
def got (l : List UInt8) : Mult := match set l with
  | none => []
  | some x => x.1
theorem err_none {l : List UInt8} (h : set l = none) : err l = 3 := by unfold err; rw [h]
theorem err_some {l t : List UInt8} {m : Mult} {o : Bool} (h : set l = some (m, t, o)) : err l = if t ≠ [] then 3 else if o = true then 4 else 0 := by unfold err; rw [h]
theorem got_some {l t : List UInt8} {m : Mult} {o : Bool} (h : set l = some (m, t, o)) : got l = m := by unfold got; rw [h]
theorem got_ok {l : List UInt8} (hl : l.length ≤ 6000) : okM (got l) := by
  unfold got
  cases h : set l with
  | none => exact ⟨by simp, by simp⟩
  | some x => exact set_ok h hl
end Bn

set_option maxHeartbeats 1000000 in
theorem bRead_any (l : List UInt8) (w : World) (hl : l.length ≤ 6000) :
    Calls Try.prog 13 #[.string (bs l)] w (ReadPost (Bn.err l) (Bn.got l) w) := by
  have hnew := VRow.new w [.string (bs l), .int .u64 (0 : Nat), .bool false, .bool false] 50
  have HS := hide (rset_any l 0 false w.heap.size _ hnew hl rfl)
  clear hnew
  unfold ReadPost
  go_enter Try.func13, Try.ntmps13
  go_wp2_with fail
  refine HS.out.mono ?_
  rintro e w1 ⟨⟨xv, ps⟩, t, o, bad, off, rfl, hx, h1, u1, hp, ht⟩
  obtain ⟨xa, xn, xc, rfl⟩ : ∃ a n c, xv = .slice a n c := own_shape hx.row
  have c0 := h1.c0
  have c2 := h1.c2
  have c3 := h1.c3
  have e0 := bs_size t
  have HX := hide hx
  have HU : Hid (Up w w1) := ((Fr.of_up ((Up.refl w).alloc _)).then u1 (T := (· = w.heap.size)) (S := fun x => w.heap.size ≤ x) (fun x _ e => by omega)).up (fun x hx => by omega)
  have HP := hide hp
  clear hx h1 u1 hp
  cases bad
  · have HQ : Hid (Bn.set l = some (L3.m ⟨.slice xa xn xc, ps⟩, t, off)) := HP.out
    have HE := hide (Bn.err_some HQ.out)
    have HG := hide (Bn.got_some HQ.out)
    cases t with
    | nil =>
      cases off
      · go_wp2
        go_ret2
        exact ⟨⟨.slice xa xn xc, ps⟩, by rw [HE.out]; rfl, HX.out, fun _ => HG.out.symm, HU.out⟩
      · go_wp2
        go_ret2
        exact ⟨nil3, by rw [HE.out]; rfl, nil3_ok _, (fun e => by rw [HE.out] at e; cases e), HU.out⟩
    | cons a s =>
      have e1 : (0 : Int) < ((a :: s).length : Int) := by simp only [List.length_cons]; omega
      go_wp2
      go_ret2
      exact ⟨nil3, by rw [HE.out]; rfl, nil3_ok _, (fun e => by rw [HE.out] at e; cases e), HU.out⟩
  · have HE := hide (Bn.err_none (l := l) HP.out)
    go_wp2
    go_ret2
    exact ⟨nil3, by rw [HE.out]; rfl, nil3_ok _, (fun e => by rw [HE.out] at e; cases e), HU.out⟩

set_option maxHeartbeats 1000000 in
theorem read1_any (l : List UInt8) (w : World) (hl : l.length ≤ 6000) :
    Calls Try.prog 10 #[.int .i64 1, .string (bs l)] w (ReadPost (Bn.err l) (Bn.got l) w) := by
  unfold ReadPost
  go_enter Try.func10, Try.ntmps10
  go_wp2_with (go_at_call 13; refine (bRead_any l _ hl).mono ?_; rintro e w1 ⟨X, rfl, h⟩; replace h := hide h)
  go_ret2
  exact ⟨X, rfl, h.out⟩
end Go.Proofs.Ytcclepohmhdpbaa
