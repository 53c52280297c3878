import Derived.Test.YtcclepohmhdpbaaGreatDoorWalkC
import Derived.Test.YtcclepohmhdpbaaGreatDoorWalkS
namespace Go.Proofs.YtcclepohmhdpbaaGreatDoor
set_option linter.all false
open Go.RowKit Go.Deep
theorem Inv.start(w:World):Inv w (w.alloc (.cells #[.slice none 0 0,.slice none 0 0,.slice none 0 0,.int .i64 0] 38)) w.heap.size (.slice none 0 0) (.slice none 0 0) 0 [] [] L3.nil 0:=⟨jr.new w [.slice none 0 0,.slice none 0 0,.slice none 0 0,.int .i64 0] _,World.ownsRow_nil _ _ _ _,World.ownsRow_nil _ _ _ _,⟨World.ownsRow_nil _ _ _ _,by simp[L3.nil]⟩,by simp[L3.bl,L3.nil,GS,Value.ownBlock],by simp,by simp,by simp,by simp,by omega,by omega,by simp[tot,L3.m,L3.nil,Pl.nR,Pl.nP],(Up.refl w).alloc _,by rintro b(e|e|e|e);{omega};{cases e};{cases e};·simp[L3.bl,L3.nil,GS,Value.ownBlock]at e⟩
end Go.Proofs.YtcclepohmhdpbaaGreatDoor
