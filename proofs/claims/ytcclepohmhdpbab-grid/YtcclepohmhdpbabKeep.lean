/- LISTS THAT ARE KEPT. -/
import Derived.Test.YtcclepohmhdpbabInv
namespace Go.Proofs.Ytcclepohmhdpbab
set_option linter.all false
open Go.RowKit Go.Deep

theorem el_pt : Elem Try.prog 26 25 (.agg #[.int .i64 0, .int .i64 0]) 2 16 := ⟨und_pts, info_pt, rfl, by omega, by omega⟩

/-! ### Lists that are kept -/
theorem bl1 {x : L1} {b : Nat} (h : b ∈ x.bl) : x.v.ownBlock = some b := by simpa [L1.bl] using h
theorem L1.ok.row_ne {w : World} {x : L1} (h : x.ok w) {b : Nat} {t : TypeId} {vs : List Value} (hb : VRow w b t vs) (h3 : t ≠ 25) : b ∉ x.bl := fun e => own_row_ne h hb (Ne.symm h3) (bl1 e)
theorem L2.ok.row_ne {w : World} {x : L2} (h : x.ok w) {b : Nat} {t : TypeId} {vs : List Value} (hb : VRow w b t vs) (h2 : t ≠ 26) (h3 : t ≠ 25) : b ∉ x.bl := fun e => by
  simp only [L2.bl, List.mem_append, List.mem_flatMap] at e
  rcases e with e | ⟨y, hy, e⟩
  · exact own_row_ne h.row hb (Ne.symm h2) (by simpa using e)
  · exact (h.sub y hy).row_ne hb h3 e
theorem L3.ok.row_ne {w : World} {x : L3} (h : x.ok w) {b : Nat} {t : TypeId} {vs : List Value} (hb : VRow w b t vs) (h1 : t ≠ 27) (h2 : t ≠ 26) (h3 : t ≠ 25) : b ∉ x.bl := fun e => by
  simp only [L3.bl, List.mem_append, List.mem_flatMap] at e
  rcases e with e | ⟨y, hy, e⟩
  · exact own_row_ne h.row hb (Ne.symm h1) (by simpa using e)
  · exact (h.sub y hy).row_ne hb h2 h3 e
theorem L1.ok.fr {S : Nat → Prop} {w w' : World} {x : L1} (h : x.ok w) (k : Fr S w w') (hs : ∀ b ∈ x.bl, ¬ S b) : x.ok w' := h.of fun b hb => k.block b (h.lt b hb) (hs b hb)
theorem L2.ok.fr {S : Nat → Prop} {w w' : World} {x : L2} (h : x.ok w) (k : Fr S w w') (hs : ∀ b ∈ x.bl, ¬ S b) : x.ok w' := h.of fun b hb => k.block b (h.lt b hb) (hs b hb)
theorem L3.ok.fr {S : Nat → Prop} {w w' : World} {x : L3} (h : x.ok w) (k : Fr S w w') (hs : ∀ b ∈ x.bl, ¬ S b) : x.ok w' := h.of fun b hb => k.block b (h.lt b hb) (hs b hb)
theorem L1.ok.up {w w' : World} {x : L1} (h : x.ok w) (k : Up w w') : x.ok w' := h.of fun b hb => k.block b (h.lt b hb)
theorem L2.ok.up {w w' : World} {x : L2} (h : x.ok w) (k : Up w w') : x.ok w' := h.of fun b hb => k.block b (h.lt b hb)
theorem L3.ok.up {w w' : World} {x : L3} (h : x.ok w) (k : Up w w') : x.ok w' := h.of fun b hb => k.block b (h.lt b hb)
theorem own_ne {w : World} {base base' : Nat} {e e' : TypeId} {size size' : Nat} {v v' : Value} {n n' : Nat} {xs xs' : List Value} (h : w.ownsRow base e size v n xs) (h' : w.ownsRow base' e' size' v' n' xs') (he : e ≠ e') {b : Nat} (hb : v.ownBlock = some b) : ¬ v'.ownBlock = some b := fun hb' => by
  rcases own_apart h h' he with k | k
  · rw [hb] at k; cases k
  · exact k (hb.trans hb'.symm)
theorem L1.ok.grown {w w' : World} {y : L1} {base n : Nat} {v : Value} {xs : List Value} (h : y.ok w) {e : TypeId} (ho : w.ownsRow base e 1 v n xs) (he : 25 ≠ e) (hg : w.grownBy w' v.ownBlock) : y.ok w' :=
  h.fr (Fr.of_grown hg) fun b hb => own_ne h ho he (bl1 hb)
theorem L2.ok.grown {w w' : World} {y : L2} {base n : Nat} {v : Value} {xs : List Value} (h : y.ok w) {e : TypeId} (ho : w.ownsRow base e 1 v n xs) (he : 25 ≠ e) (he2 : 26 ≠ e) (hg : w.grownBy w' v.ownBlock) : y.ok w' :=
  h.fr (Fr.of_grown hg) fun b hb e => by
    simp only [L2.bl, List.mem_append, List.mem_flatMap] at hb
    rcases hb with hb | ⟨z, hz, hb⟩
    · exact own_ne h.row ho he2 (by simpa using hb) e
    · exact own_ne (h.sub z hz) ho he (bl1 hb) e

def nil3 : L3 := ⟨.slice none 0 0, []⟩
theorem nil3_ok (w : World) : nil3.ok w := ⟨World.ownsRow_nil _ _ _ _, by simp [nil3]⟩

end Go.Proofs.Ytcclepohmhdpbab
