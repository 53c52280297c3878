import Derived.Test.YtcclepohmhdpbabGreatDoorNoted
import Derived.Deep.QuietTactic
import Derived.BigQuiet
namespace Go.Proofs.YtcclepohmhdpbabGreatDoor
set_option linter.all false
open Go.RowKit Go.Deep
structure Gr (w : World) where
 v : World
 up : Up w v
instance (w : World) : Nonempty (Gr w) := ⟨⟨w, Up.refl w⟩⟩
theorem wp_region_up {P : Program} {id : Nat} {Q : Exit → Act → World → Prop} {a : Act} {w : World} {l : List Oper} (hm : P.follows .mixedOrders = true) (hB : Region.lexB .any l.toArray = true)
  (h : wpQuiet P l.toArray (fun w' => ∃ g : Gr w, w' = g.v) (fun a' => ∀ w', (∃ g : Gr w, w' = g.v) → Q .normal a' w') l a) : (Code.region id l.toArray true).wp P Q a w :=
 wp_region_quiet (C := fun w' => ∃ g : Gr w, w' = g.v) hm hB ⟨⟨_, (Up.refl w).drew⟩, rfl⟩ (by simpa using h)
theorem Calls.up_of {P : Program} {f : FuncId} {args : Array Value} {w : World} {g : Gr w} {v : Value}
  (h : Calls P f args g.v fun e w' => e = .returned v ∧ Up g.v w') : Calls P f args g.v fun e w'' => e = .returned v ∧ ∃ m : Gr w, w'' = m.v :=
 h.mono fun _ _ ⟨he, hu⟩ => ⟨he, ⟨_, g.up.trans hu⟩, rfl⟩
theorem VRow.gr {w : World} {b : Nat} {t : TypeId} {vs : List Value} (h : VRow w b t vs) {i : Nat} {v : Value} (hi : vs[i]? = some v) (g : Gr w) : g.v.cell? ⟨b, i, none⟩ = some v := g.up.cell (h.cell hi)
theorem cell_gr {w : World} {p : Addr} {v : Value} (h : w.cell? p = some v) (g : Gr w) : g.v.cell? p = some v := g.up.cell h
theorem bcell {W w1 : World} (hb : Up W w1) : (∀ b o, b < W.heap.size → w1.cell? ⟨b, o, none⟩ = W.cell? ⟨b, o, none⟩) ∧ (∀ b o, b < W.heap.size → w1.frozen? ⟨b, o, none⟩ = W.frozen? ⟨b, o, none⟩) :=
 ⟨fun b o h => Below.cell hb (p := ⟨b, o, none⟩) h, fun b o h => Below.frozen hb (p := ⟨b, o, none⟩) h⟩
end Go.Proofs.YtcclepohmhdpbabGreatDoor
