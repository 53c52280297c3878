import Derived.Test.YtcclepohmhdpbabGreatDoorCnG
import Derived.Test.YtcclepohmhdpbabGreatDoorClL
namespace Go.Proofs.YtcclepohmhdpbabGreatDoor
set_option linter.all false
open Go.RowKit Go.Deep
set_option maxRecDepth 8000 in
set_option maxHeartbeats 4000000 in
theorem canonical_invalid (v : Value) (m : Mult) (w : World) (g : Nat) (u : Value) (hs : SetR w v m g u) (hz : Sz m) (hv : Vd.least m ≠ 0) :
  Calls Tryz.prog 16 #[v] w fun e w' => e = .returned (.tuple #[.pointer none, .int .i64 7]) ∧ Up w w' := by
 have HK := hide (isValid_is (decide_eq_false hv) hs hz)
 obtain ⟨rfl, -, -⟩ := hs
 clear hz hv
 go_enter Tryz.func16, Tryz.ntmps16
 go_wp2_with fail
 refine HK.out.mono ?_
 rintro e w2 ⟨rfl, hu⟩
 replace hu := hide hu
 go_wp2
 go_ret2
 exact ⟨rfl, hu.out⟩
set_option maxRecDepth 8000 in
set_option maxHeartbeats 4000000 in
theorem canonical_ok (v : Value) (m : Mult) (w : World) (g : Nat) (u : Value) (hs : SetR w v m g u) (hz : Sz m) (hf : FZ m) (hv : Vd.least m = 0) :
  Calls Tryz.prog 16 #[v] w fun e w' => ∃ (b G : Nat) (X : List PG), e = .returned (.tuple #[.pointer (some ⟨b, 0, none⟩), .int .i64 0]) ∧ w.heap.size ≤ b ∧ VRow w' b 62 [.slice (some ⟨G, 0, none⟩) X.length X.length] ∧ NS w.heap.size w' G X ∧ PG.m X = Vd.form m ∧ Up w w' := by
 have HK := hide (isValid_is (decide_eq_true hv) hs hz)
 have HS := hide hs
 have HF := hide hf
 obtain ⟨rfl, -, -⟩ := hs
 obtain ⟨ua, uc, rfl, -⟩ := HS.out.rd
 clear hz hv hf
 go_enter Tryz.func16, Tryz.ntmps16
 go_wp2_with fail
 refine HK.out.mono ?_
 rintro e w2 ⟨rfl, hu⟩
 have HU := hide hu
 have c0 := ((HS.out.up hu).cell).cell (i := 0) rfl
 have HFm := hide (form_any _ m w2 (HS.out.rd.up hu) HF.out)
 clear hu HK
 go_wp2_with fail
 refine HFm.out.mono ?_
 rintro e w3 ⟨G, X, rfl, hN, hE, hu3⟩
 have HU3 := hide (HU.out.trans hu3)
 have hb : Hid (w.heap.size ≤ w2.heap.size) := HU.out.size
 have HN : Hid (NS w.heap.size (w3.alloc (.cells #[.slice (some ⟨G, 0, none⟩) X.length X.length] 62)) G X) :=
  ⟨Nat.le_trans hb.out hN.low, hN.row.up ((Up.refl _).alloc _), fun x hx => ((hN.ok x hx).base hb.out).up ((Up.refl _).alloc _)⟩
 have HE := hide hE
 have HR := hide (VRow.new w3 [.slice (some ⟨G, 0, none⟩) X.length X.length] 62)
 have hs3 : Hid (w.heap.size ≤ w3.heap.size) := HU3.out.size
 clear hN hE hu3 HFm c0
 go_wp2
 go_ret2
 exact ⟨w3.heap.size, G, X, rfl, hs3.out, HR.out, HN.out, HE.out, HU3.out.alloc _⟩
end Go.Proofs.YtcclepohmhdpbabGreatDoor
