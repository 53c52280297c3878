/- WHAT (*World).told DOES, a round: no walk. -/
import Derived.Test.YtcclepohmhdpbaaGreatDoorWalkI
import Derived.Test.YtcclepohmhdpbaaGreatDoorWalkH
import Derived.Test.YtcclepohmhdpbaaGreatDoorWalkK
import Derived.Test.YtcclepohmhdpbaaGreatDoorWalkE
namespace Go.Proofs.YtcclepohmhdpbaaGreatDoor
set_option linter.all false
open Go.RowKit Go.Deep

theorem Fr.then {S T : Nat → Prop} {a b c : World} (h : Fr S a b) (k : Fr T b c) (hT : ∀ x, x < a.heap.size → T x → S x) : Fr S a c :=
  ⟨k.os.trans h.os, k.tape.trans h.tape, k.output.trans h.output, Nat.le_trans h.size k.size, fun i hi hs => (k.block i (Nat.lt_of_lt_of_le hi h.size) (fun e => hs (hT i hi e))).trans (h.block i hi hs)⟩
theorem Fr.of_grown {w w' : World} {row : Option Nat} (h : w.grownBy w' row) : Fr (fun b => row = some b) w w' := ⟨h.os, h.tape, h.output, h.size, fun b hb hs => h.block b hb (fun e => hs e.symm)⟩
theorem Fr.of_set (w : World) (a : Addr) (v : Value) : Fr (fun b => b = a.block) w (w.setCell a v) := Fr.setCell (S := fun b => b = a.block) (Fr.refl _ w) rfl v

theorem el_handed : Elem Tryz.prog 36 98 (.agg zhanded.toArray) 6 128 := ⟨by kernel_rfl, by kernel_rfl, rfl, by omega, by omega⟩

/-- Where told stands after i rounds. -/
structure TS (w wr : World) (Wb : Nat) (psv lv outv0 : Value) (mk0 : Int) (F : Nat → Prop) (n0 i : Nat) (outv : Value) (O : List OG) (mk : Int) : Prop where
  fr : Fr (fun b => b = Wb ∨ outv0.ownBlock = some b) w wr
  wrow : WR wr Wb psv lv outv mk
  own : wr.ownsRow 0 98 6 outv O.length (cellsO O)
  at_ : outv.ownBlock = outv0.ownBlock ∨ ∃ g, outv.ownBlock = some g ∧ w.heap.size ≤ g
  hs : ∀ o ∈ O, HSo (fun b => (F b ∨ w.heap.size ≤ b) ∧ b ≠ Wb ∧ outv.ownBlock ≠ some b) wr o
  len : O.length = n0 + i
  mk1 : mk0 ≤ mk
  mk2 : mk ≤ mk0 + i * 32

theorem TS.step {w wr w1 w3 w4 w5 w6 w8 : World} {Wb : Nat} {psv lv outv0 outv : Value} {mk0 mk : Int} {F : Nat → Prop} {n0 i : Nat} {O : List OG} (h : TS w wr Wb psv lv outv0 mk0 F n0 i outv O mk) (hWw : Wb < w.heap.size)
    {d : D3} (hdl : ∀ b ∈ d.bl, wr.heap.size ≤ b) (hdo : OK3 w1 d) (u1 : Up wr w1) (u3 : Up w1 w3) {pv rv rmv pmv : Value} (hn : NPost w3 w4 pv rv rmv pmv (polyVM d.ps mk) (ringVM d.ps mk)) (u5 : Up w4 w5)
    {g cap : Nat} (hg : w5.grownBy w6 outv.ownBlock) (hown : w6.ownsRow 0 98 6 (.slice (some ⟨g, 0, none⟩) (O.length + 1) cap) (O.length + 1) (cellsO O ++ (OG.mk d.v pv rv rmv pmv (mk + off d.ps)).cells)) (hat : outv.ownBlock = some g ∨ g = w5.heap.size) (hlt : g < w6.heap.size)
    (hs : SpoilPost (w6.setCell ⟨Wb, 2, none⟩ (.slice (some ⟨g, 0, none⟩) (O.length + 1) cap)) w8 d Wb psv lv (.slice (some ⟨g, 0, none⟩) (O.length + 1) cap) mk) (hb : Pl.Bd d.m) (hnr : Pl.nR d.m ≤ 12) (hnp : d.m.length ≤ 8) :
    TS w w8 Wb psv lv outv0 mk0 F n0 (i + 1) (.slice (some ⟨g, 0, none⟩) (O.length + 1) cap) (O ++ [OG.mk d.v pv rv rmv pmv (mk + off d.ps)]) (mk + off d.ps + 1) := by
  have s0 := h.fr.size
  have s1 := u1.size
  have s3 := u3.size
  have s4 := hn.up.size
  have s5 := u5.size
  have s6 := hg.size
  have s7 : (w6.setCell ⟨Wb, 2, none⟩ (.slice (some ⟨g, 0, none⟩) (O.length + 1) cap)).heap.size = w6.heap.size := by simp [World.setCell]
  have hdlt : ∀ b ∈ d.bl, b < w1.heap.size := hdo.lt
  have hold : ∀ b, outv.ownBlock = some b → b < wr.heap.size := fun b e => (own_lt h.own e).2
  have hgo : g < wr.heap.size ∧ outv.ownBlock = some g ∨ g = w5.heap.size := by
    rcases hat with e | e
    · exact .inl ⟨hold g e, e⟩
    · exact .inr e
  have f47 : Fr (fun b => b = Wb ∨ outv.ownBlock = some b) w4 (w6.setCell ⟨Wb, 2, none⟩ (.slice (some ⟨g, 0, none⟩) (O.length + 1) cap)) :=
    (((Fr.of_up u5).then (Fr.of_grown hg) fun x _ e => .inr e)).setCell (.inl rfl) _
  have frt : Fr (fun b => b = Wb ∨ outv.ownBlock = some b ∨ b ∈ d.bl) wr w8 :=
    ((((Fr.of_up (((u1.trans u3).trans hn.up))).then f47 fun x _ e => by
        rcases e with e | e
        · exact .inl e
        · exact .inr (.inl e))).then hs.fr fun x _ e => by
          rcases e with e | e
          · exact .inr (.inr e)
          · exact .inl e)
  have hoff := off_eq d
  have hpl : d.m.length = d.ps.length := by simp [D3.m]
  refine ⟨?_, hs.wrow, ?_, ?_, ?_, ?_, ?_, ?_⟩
  · refine h.fr.then frt fun x hx e => ?_
    rcases e with e | e | e
    · exact .inl e
    · rcases h.at_ with e2 | ⟨g2, e2, e3⟩
      · exact .inr (by rw [← e2]; exact e)
      · rw [e2] at e; cases e; omega
    · have := hdl x e; omega
  · rw [cellsO_snoc, List.length_append]
    have o7 := own_set hown (a := ⟨Wb, 2, none⟩) (show some g ≠ some Wb by
      intro e
      have e := Option.some.inj e
      rcases hgo with e2 | e2
      · have hr := h.wrow
        exact own_row_ne h.own hr (by decide) (by rw [e2.2, e])
      · omega) (.slice (some ⟨g, 0, none⟩) (O.length + 1) cap)
    refine own_fr o7 hs.fr ?_
    intro b eb
    have eb : g = b := Option.some.inj eb
    subst eb
    rintro (e | e)
    · rcases hgo with e2 | e2
      · have := hdl g e; omega
      · have := hdlt g e; omega
    · rcases hgo with e2 | e2
      · exact own_row_ne h.own h.wrow (by decide) (by rw [e2.2, e])
      · omega
  · rcases hgo with e2 | e2
    · rcases h.at_ with e3 | ⟨g2, e3, e4⟩
      · exact .inl (by rw [← e3, e2.2]; rfl)
      · rw [e2.2] at e3; cases e3
        exact .inr ⟨g, rfl, e4⟩
    · exact .inr ⟨g, rfl, by omega⟩
  · intro o ho
    rcases List.mem_append.1 ho with ho | ho
    · refine (h.hs o ho).keep frt fun b hb hF => ⟨⟨hF.1, hF.2.1, ?_⟩, ?_⟩
      · show some g ≠ some b
        intro e
        have e := Option.some.inj e
        rcases hgo with e2 | e2
        · exact hF.2.2 (by rw [e2.2, e])
        · omega
      · rintro (e | e | e)
        · exact hF.2.1 e
        · exact hF.2.2 e
        · have := hdl b e; omega
    · simp at ho; subst ho
      have hm := HS.made hn f47 hs (fun b hb => by have := hdlt b hb; omega) (by omega) (fun b h1 h2 e => by
        rcases e with e | e
        · omega
        · have := hold b e; omega) hb (by omega)
      refine ⟨_, _, _, hm.keep (Fr.refl (fun _ => False) _) fun b _ hF => ⟨?_, fun h => h⟩⟩
      rw [s7] at hF
      rcases hF with hF | ⟨hF1, hF2⟩ | hF
      · have h1 := hdl b hF
        have h2 := hdlt b hF
        exact ⟨.inr (by omega), by omega, fun e => by have e : g = b := Option.some.inj e; rcases hgo with e2 | e2 <;> omega⟩
      · exact ⟨.inr (by omega), by omega, fun e => by have e : g = b := Option.some.inj e; rcases hgo with e2 | e2 <;> omega⟩
      · exact ⟨.inr (by omega), by omega, fun e => by have e : g = b := Option.some.inj e; omega⟩
  · rw [List.length_append, h.len]; rfl
  · have := h.mk1; omega
  · have := h.mk2
    have h1 : off d.ps ≤ 20 := by omega
    omega

end Go.Proofs.YtcclepohmhdpbaaGreatDoor
