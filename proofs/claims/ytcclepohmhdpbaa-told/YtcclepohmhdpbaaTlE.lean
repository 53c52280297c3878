/- Told: words. -/
import Derived.Test.YtcclepohmhdpbaaTlD
namespace Go.Proofs.Ytcclepohmhdpbaa
set_option linter.all false
open Go.RowKit Go.Deep

def LP (w : World) (e : Ending) (w' : World) : Prop := ∃ b, e = .returned (.slice (some ⟨b, 0, none⟩) 47 47) ∧
  (∀ (i : Nat) W, Tl.tab[i]? = some W → w'.cell? ⟨b, i * 4, none⟩ = some (.string (bs W.s)) ∧ w'.cell? ⟨b, i * 4 + 1, none⟩ = some (.int .i64 W.f) ∧ w'.cell? ⟨b, i * 4 + 2, none⟩ = some (.int .i64 W.e) ∧ w'.cell? ⟨b, i * 4 + 3, none⟩ = some (.int .i64 W.x)) ∧ Up w w'

theorem Rd3.nil {w : World} {v : Value} (h : Rd3 w v []) : ∃ ao cap, v = .slice ao 0 cap := by
  obtain ⟨ao, cap, rfl, -⟩ := h
  exact ⟨ao, cap, rfl⟩
theorem Rd3.one {w : World} {v : Value} {p r s : Pnt} {x q : Int} (h : Rd3 w v [[[p, (x, q), r, s]]]) : ∃ b0 c0 b1 c1 b2 c2, v = .slice (some ⟨b0, 0, none⟩) 1 c0 ∧ w.cell? ⟨b0, 0, none⟩ = some (.slice (some ⟨b1, 0, none⟩) 1 c1) ∧ w.cell? ⟨b1, 0, none⟩ = some (.slice (some ⟨b2, 0, none⟩) 4 c2) ∧ w.cell? ⟨b2, 2, none⟩ = some (.int .i64 x) := by
  obtain ⟨ao, c0, rfl, h⟩ := h
  obtain ⟨b0, u, rfl, h0, h⟩ := h 0 _ rfl
  obtain ⟨ao1, c1, rfl, h⟩ := h
  obtain ⟨b1, u1, rfl, h1, h⟩ := h 0 _ rfl
  obtain ⟨ao2, c2, rfl, h⟩ := h
  obtain ⟨b2, rfl, h2, -⟩ := h 1 _ rfl
  exact ⟨b0, c0, b1, c1, b2, c2, rfl, h0, h1, h2⟩
theorem new4 (w : World) (a b c d : Value) (t : TypeId) : (w.alloc (.cells #[a, b, c, d] t)).cell? ⟨w.heap.size, 2, none⟩ = some c ∧ (w.alloc (.cells #[a, b, c, d] t)).cell? ⟨w.heap.size, 3, none⟩ = some d := by
  exact ⟨VRow.cell (VRow.new w [a, b, c, d] t) (i := 2) rfl, VRow.cell (VRow.new w [a, b, c, d] t) (i := 3) rfl⟩

set_option maxRecDepth 100000 in
set_option maxHeartbeats 4000000 in
theorem words_any (HL : Hid (∀ w, Calls Try.prog 5 #[] w (LP w))) (k : Int) (h1 : -9223372036854775808 ≤ k) (h2 : k ≤ 9223372036854775807) (w : World) :
    Calls Try.prog 4 #[.int .i64 k] w fun e w' => e = .returned (.bool true) ∧ Up w w' := by
  go_enter Try.func4, Try.ntmps4
  go_wp2_with (first
    | (go_at_call 5; refine (HL.out _).mono ?_; rintro e w1 ⟨b, rfl, hl, u1⟩; replace hl := hide hl; replace u1 := hide u1)
    | (go_at_call 6; refine (pick47_any _ h1 h2 _).mono ?_; rintro e w2 ⟨i, rfl, hi, rfl⟩; obtain ⟨W, hW⟩ : ∃ W, Tl.tab[i]? = some W := ⟨_, List.getElem?_eq_getElem (by rw [Tl.len]; exact hi)⟩; obtain ⟨c0, c1, c2, c3⟩ := hl.out i W hW; have hm := hide (List.mem_of_getElem? hW); clear hW)
    | (go_at_call 7; go_must (refine (Tl.dec_any W hm.out _).mono ?_); go_must (rintro e w3 (⟨he, rfl, u3⟩ | ⟨he, B, d, M, rfl, hs, hb, (⟨hx, rfl⟩ | ⟨hx, p, q, r, s, rfl⟩), u3⟩))
       go_must (obtain ⟨n2, n3⟩ := new4 w2 (.string (bs W.s)) (.int .i64 W.f) (.int .i64 W.e) (.int .i64 W.x) 27)
       go_must (have f2 := u3.cell n2)
       go_must (have he' : (W.e != 0) = true := bne_iff_ne.2 he)
       go_must (clear n2 n3 c0 c1 c2 c3)
       go_must (replace u3 := hide u3)
       rotate_left
       go_must (obtain ⟨n2, n3⟩ := new4 w2 (.string (bs W.s)) (.int .i64 W.f) (.int .i64 W.e) (.int .i64 W.x) 27)
       go_must (have f2 := u3.cell n2)
       go_must (have f3 := u3.cell n3)
       go_must (rw [he] at f2)
       go_must (rw [hx] at f3)
       go_must (clear n2 n3 c0 c1 c2 c3 he hx)
       go_must (replace u3 := hide u3)
       go_must (replace hs := hide hs)
       go_must (replace hb := hide hb)
       rotate_left
       go_must (obtain ⟨n2, n3⟩ := new4 w2 (.string (bs W.s)) (.int .i64 W.f) (.int .i64 W.e) (.int .i64 W.x) 27)
       go_must (have f2 := u3.cell n2)
       go_must (have f3 := u3.cell n3)
       go_must (rw [he] at f2)
       go_must (have hx' : (W.x == -99) = false := beq_eq_false_iff_ne.2 hx)
       go_must (clear n2 n3 c0 c1 c2 c3 he hx)
       go_must (replace u3 := hide u3)
       go_must (replace hs := hide hs)
       go_must (replace hb := hide hb)
       rotate_left)
    | (go_at_call 8; refine (points_any _ _ _ B d hs.out hb.out).mono ?_; rintro e w4 ⟨d', rfl, hok, hm', -, -, -, u4⟩; have hr := hm' ▸ hok.rd; replace f3 := u4.cell f3; replace u4 := hide u4; clear hok hm'
       first
       | (obtain ⟨ao, cap, hv⟩ := Rd3.nil hr; rw [hv]; clear hr)
       | (obtain ⟨b0, k0, b1, k1, b2, k2, hv, g0, g1, g2⟩ := Rd3.one hr; rw [hv]; clear hr)))
  · go_ret
    exact ⟨rfl, u1.out.trans (((Up.refl w2).alloc _).trans u3.out)⟩
  · go_ret
    exact ⟨rfl, u1.out.trans ((((Up.refl w2).alloc _).trans u3.out).trans u4.out)⟩
  · go_quiet (fail)
    go_wp2
    go_ret
    exact ⟨rfl, u1.out.trans ((((Up.refl w2).alloc _).trans u3.out).trans (u4.out.drewN _))⟩
end Go.Proofs.Ytcclepohmhdpbaa
