import Derived.Test.YtcclepohmhdpbaaGreatDoorBgB
import Derived.Test.YtcclepohmhdpbaaGreatDoorPnG
import Derived.Test.YtcclepohmhdpbaaGreatDoorPnC
namespace Go.Proofs.YtcclepohmhdpbaaGreatDoor
set_option linter.all false
open Go.RowKit Go.Deep
attribute[local go_sem↓]Go.wp_at_zero Go.wp_at_succ
structure BL(w wr:World)(hb:Nat)(ng:Bool)(uv:Value)(ds:List Int)(rs:List (Nat×List Value)):Prop where
 up:Up w wr
 low:w.heap.size<=hb
 row:jr wr hb 87 [.bool ng,uv]
 own:wr.ownsRow w.heap.size 3 1 uv ds.length (ints ds)
 rest:∀x∈rs,x.1≠hb∧jr wr x.1 87 x.2
theorem BL.start(w w0:World)(hu:Up w w0)(ng:Bool)(rs:List (Nat×List Value))(hr:∀x∈rs,x.1<w0.heap.size∧jr w0 x.1 87 x.2)(hb:Nat)(e:w0.heap.size=hb):BL w (w0.alloc (.cells #[.bool ng,.slice none 0 0] 87)) hb ng (.slice none 0 0) [] rs:=e▸⟨hu.alloc _,hu.size,jr.new w0 [.bool ng,.slice none 0 0] _,World.ownsRow_nil _ _ _ _,fun x hx=>⟨gI (hr x hx).1,(hr x hx).2.alloc _⟩⟩
end Go.Proofs.YtcclepohmhdpbaaGreatDoor
namespace Go.Proofs.YtcclepohmhdpbaaGreatDoor
set_option linter.all false
open Go.RowKit Go.Deep
end Go.Proofs.YtcclepohmhdpbaaGreatDoor
namespace Go.Proofs.YtcclepohmhdpbaaGreatDoor
set_option linter.all false
open Go.RowKit Go.Deep
attribute[local go_sem↓]Go.wp_at_zero Go.wp_at_succ
theorem three(w:World)(a b c:List Value)(g:Bool):BL w ((((w.alloc (.cells a.toArray 87)).alloc (.cells b.toArray 87)).alloc (.cells c.toArray 87)).alloc (.cells #[.bool g,.slice none 0 0] 87)) (w.heap.size+3) g (.slice none 0 0) [] [(w.heap.size,a),(w.heap.size+1,b),(w.heap.size+2,c)]:=by
 have r1:=jr.new w a 87;have r2:=jr.new (w.alloc (.cells a.toArray 87)) b 87;have r3:=jr.new ((w.alloc (.cells a.toArray 87)).alloc (.cells b.toArray 87)) c 87;rw[show(w.alloc (.cells a.toArray 87)).heap.size=w.heap.size+1 by simp]at r2;rw[show((w.alloc (.cells a.toArray 87)).alloc (.cells b.toArray 87)).heap.size=w.heap.size+2 by simp]at r3;refine BL.start w _ ((((Up.refl w).alloc _).alloc _).alloc _) g _ (fun x hx=>?_) (w.heap.size+3) (by simp);simp only[aE,iF,or_false]at hx;rcases hx with rfl|rfl|rfl;{exact⟨by simp;omega,(r1.alloc _).alloc _⟩};{exact⟨by simp,r2.alloc _⟩};·exact⟨by simp,r3⟩
end Go.Proofs.YtcclepohmhdpbaaGreatDoor
