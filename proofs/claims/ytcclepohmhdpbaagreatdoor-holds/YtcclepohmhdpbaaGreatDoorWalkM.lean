/- THE WALKS: (*World).keep, made. -/
import Derived.Test.YtcclepohmhdpbaaGreatDoorInv
import Derived.Test.YtcclepohmhdpbaaGreatDoorWalkD
namespace Go.Proofs.YtcclepohmhdpbaaGreatDoor
set_option linter.all false
open Go.RowKit Go.Deep

theorem el_pair : Elem Tryz.prog 35 52 (.agg #[.pointer none, .slice none 0 0]) 2 32 := ⟨by kernel_rfl, by kernel_rfl, rfl, by omega, by omega⟩

set_option maxRecDepth 100000 in
set_option maxHeartbeats 4000000 in
theorem keep_gen (w : World) (Wb : Nat) (psv lv outv : Value) (mk : Int) (S : List SG) (hW : WR w Wb psv lv outv mk) (hown : w.ownsRow 0 52 2 psv S.length (cellsS S)) (hSb : S.length ≤ 1073741824) (b : Nat) (ao : Option Addr) (ln cp : Nat) :
    Calls Tryz.prog 32 #[.pointer (some ⟨Wb, 0, none⟩), .pointer (some ⟨b, 0, none⟩), .slice ao ln cp] w fun e w' => e = .returned (.bool true) ∧ ∃ psv', WR w' Wb psv' lv outv mk ∧ w'.ownsRow 0 52 2 psv' (S.length + 1) (cellsS S ++ [.pointer (some ⟨b, 0, none⟩), .slice ao ln cp]) ∧ Fr (fun b => b = Wb ∨ psv.ownBlock = some b) w w' ∧ (psv'.ownBlock = psv.ownBlock ∨ ∃ g, psv'.ownBlock = some g ∧ w.heap.size ≤ g) := by
  have hW' := hide hW
  have hown' := hide hown
  have c0 := hW.c0
  have hWA : Hid (WR (w.alloc (.cells #[.pointer (some ⟨b, 0, none⟩), .slice ao ln cp] 52)) Wb psv lv outv mk) := VRow.alloc hW _
  have hOA := hide (hown.alloc (.cells #[.pointer (some ⟨b, 0, none⟩), .slice ao ln cp] 52))
  have hne := hide (own_row_ne hOA.out hWA.out (by decide))
  clear hW hown
  go_enter Tryz.func32, Tryz.ntmps32
  go_wp2_with (at_builtin; refine wpList_app el_pair rfl (.tmp 11) (.tmp 15) rfl 0 psv _ _ (by rfl) hOA.out w.heap.size [.pointer (some ⟨b, 0, none⟩), .slice ao ln cp] (by rfl) rfl (heap_alloc_new w _) (by intro u hu; simp at hu; rcases hu with rfl | rfl <;> rfl) hSb (by omega) ?_; intro g cap w1 hown1 hg1 hat1 hlt1; have r4 := VRow.grown hWA.out hg1 hne.out; have rc4 := VRow.cell r4 (i := 0) (v := psv) rfl; have rf4 := VRow.frozen r4 0; replace r4 := hide r4; replace hown1 := hide hown1; replace hg1 := hide hg1; replace hat1 := hide hat1)
  go_ret
  refine ⟨rfl, .slice (some ⟨g, 0, none⟩) (S.length + 1) cap, VRow.set r4.out 0 _, own_set hown1.out (own_row_ne hown1.out r4.out (by decide)) _, ?_, ?_⟩
  · exact (((Fr.of_up ((Up.refl w).alloc _)).then (Fr.of_grown hg1.out) fun x _ e => .inr e)).setCell (.inl rfl) _
  · rcases hat1.out with e | e
    · exact .inl e.symm
    · exact .inr ⟨g, rfl, by rw [e]; simp⟩

theorem keep_any (w : World) (Wb : Nat) (psv lv outv : Value) (mk : Int) (S : List SG) (hW : WR w Wb psv lv outv mk) (hown : w.ownsRow 0 52 2 psv S.length (cellsS S)) (hSb : S.length ≤ 1073741824) (b : Nat) (d : D3) :
    Calls Tryz.prog 32 #[.pointer (some ⟨Wb, 0, none⟩), .pointer (some ⟨b, 0, none⟩), d.v] w fun e w' => e = .returned (.bool true) ∧ ∃ psv', WR w' Wb psv' lv outv mk ∧ w'.ownsRow 0 52 2 psv' (S.length + 1) (cellsS S ++ [.pointer (some ⟨b, 0, none⟩), d.v]) ∧ Fr (fun b => b = Wb ∨ psv.ownBlock = some b) w w' ∧ (psv'.ownBlock = psv.ownBlock ∨ ∃ g, psv'.ownBlock = some g ∧ w.heap.size ≤ g) :=
  keep_gen w Wb psv lv outv mk S hW hown hSb b (some ⟨d.b, 0, none⟩) d.ps.length (d.ps.length + d.s.length)

end Go.Proofs.YtcclepohmhdpbaaGreatDoor
